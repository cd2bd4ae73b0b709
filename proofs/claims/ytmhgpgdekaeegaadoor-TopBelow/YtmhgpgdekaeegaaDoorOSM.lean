import Derived.Test.YtmhgpgdekaeegaaDoorProg
set_option linter.unusedVariables false
set_option linter.unusedSimpArgs false
namespace Go.Proofs.YtmhgpgdekaeegaaDoor
/-- Sorting that keeps the order of what is alike, as mathematics: no program. Items have a key. -/
def srt {α : Type} (key : α → Int) (l : List α) : Prop := l.Pairwise fun x y => key x ≤ key y
/-- Of each key the same items in the same order. -/
def eqv {α : Type} (key : α → Int) (X Y : List α) : Prop := ∀ k, X.filter (fun x => decide (key x = k)) = Y.filter (fun x => decide (key x = k))
theorem eqv.refl {α : Type} {key : α → Int} (X : List α) : eqv key X X := fun _ => rfl
theorem eqv.symm {α : Type} {key : α → Int} {X Y : List α} (h : eqv key X Y) : eqv key Y X := fun k => (h k).symm
theorem eqv.trans {α : Type} {key : α → Int} {X Y Z : List α} (h : eqv key X Y) (h' : eqv key Y Z) : eqv key X Z := fun k => (h k).trans (h' k)
theorem eqv.mem {α : Type} {key : α → Int} {X Y : List α} (h : eqv key X Y) {x : α} (hx : x ∈ X) : x ∈ Y := by
  have h1 : x ∈ X.filter (fun y => decide (key y = key x)) := List.mem_filter.2 ⟨hx, by simp⟩
  rw [h (key x)] at h1
  exact (List.mem_filter.1 h1).1
/-- The list is one alone: sorted, and of each key the same items. -/
theorem one {α : Type} {key : α → Int} : ∀ {X Y : List α}, srt key X → srt key Y → eqv key X Y → X = Y
  | [], Y, _, _, h => by
    cases Y with
    | nil => rfl
    | cons y Y => have := h.symm.mem (x := y) (by simp); cases this
  | x :: X, [], _, _, h => by have := h.mem (x := x) (by simp); cases this
  | x :: X, y :: Y, hX, hY, h => by
    obtain ⟨x1, x2⟩ := List.pairwise_cons.1 hX
    obtain ⟨y1, y2⟩ := List.pairwise_cons.1 hY
    have hk : key x = key y := by
      have a1 : key y ≤ key x := by
        rcases List.mem_cons.1 (h.mem (x := x) (by simp)) with e | e
        · rw [e]; exact Int.le_refl _
        · exact y1 x e
      have a2 : key x ≤ key y := by
        rcases List.mem_cons.1 (h.symm.mem (x := y) (by simp)) with e | e
        · rw [e]; exact Int.le_refl _
        · exact x1 y e
      omega
    have h0 := h (key x)
    rw [List.filter_cons, List.filter_cons, if_pos (by simp), if_pos (by simp [hk])] at h0
    have e := (List.cons.inj h0).1
    subst e
    rw [one x2 y2 (fun k => ?_)]
    have := h k
    rw [List.filter_cons, List.filter_cons] at this
    split at this
    · exact (List.cons.inj this).2
    · exact this
end Go.Proofs.YtmhgpgdekaeegaaDoor
