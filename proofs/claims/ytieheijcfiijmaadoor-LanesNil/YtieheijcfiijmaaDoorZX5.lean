import Derived.Test.YtieheijcfiijmaaDoorProg
import Derived.Test.YtieheijcfiijmaaDoorZX4
import Derived.Deep.RegionLaw
import Derived.Shelf.Abstract
import Derived.Below
import Derived.WalkKit
import Derived.WalkSpells
import Derived.WalkLawsBesides
import Derived.Deep.Draws
import Derived.Deep.QuietTactic
import Derived.BigQuiet
import Derived.Laws.Externs
import Derived.Laws.CopyOwn
import Derived.BigRegion
import Derived.Laws.BitsAll
import Derived.Deep.RegionHeld3
set_option linter.unusedVariables false
set_option linter.unusedSimpArgs false
namespace Go.Proofs.YtieheijcfiijmaaDoor
open Go.RowKit Go.Shelf
/-- Numbers as cells. -/
def UF (l : List Nat) : List Value := l.map (fun x => Value.float .f64 x)
theorem UF_get (l : List Nat) (j : Nat) (h : j < l.length) : (UF l)[j]? = some (.float .f64 (l.getD j 0)) := by simp [UF, List.getD, h]
/-- A list of numbers with memory of its own. -/
def OwnF (B : Nat) (w : World) (v : Value) (l : List Nat) : Prop := w.ownsRow B 57 1 v l.length (UF l)
theorem OwnF.same {B : Nat} {w w' : World} {v : Value} {l : List Nat} (h : OwnF B w v l) (k : ∀ b, v.ownBlock = some b → w'.heap[b]? = w.heap[b]?) : OwnF B w' v l := by
  refine ⟨h.1, ?_⟩
  rcases h.2 with h2 | ⟨g, cap, cur, hv, hg, hh, r⟩
  · exact .inl h2
  · exact .inr ⟨g, cap, cur, hv, hg, by rw [k g (by rw [hv]; rfl)]; exact hh, r⟩
theorem OwnF.block {B : Nat} {w : World} {v : Value} {l : List Nat} (h : OwnF B w v l) {b : Nat} (hb : v.ownBlock = some b) : B ≤ b ∧ ∃ cur, w.heap[b]? = some (.cells cur 57 (0, 0)) := by
  rcases h.2 with ⟨h1, _⟩ | ⟨g, cap, cur, hv, hg, hh, r⟩
  · rw [h1] at hb; cases hb
  · rw [hv] at hb
    have hb : some g = some b := hb
    simp only [Option.some.injEq] at hb
    subst hb
    exact ⟨hg, cur, hh⟩
theorem OwnF.keep {B : Nat} {w w' : World} {v : Value} {l : List Nat} (h : OwnF B w v l) (k : Keep w w') : OwnF B w' v l :=
  h.same (fun b hb => by obtain ⟨_, cur, hh⟩ := h.block hb; exact k.block b (Array.getElem?_eq_some_iff.1 hh).1)
theorem OwnF.mono {B B' : Nat} {w : World} {v : Value} {l : List Nat} (h : OwnF B w v l) (hB : B' ≤ B) : OwnF B' w v l := by
  refine ⟨h.1, ?_⟩
  rcases h.2 with h2 | ⟨g, cap, cur, hv, hg, r⟩
  · exact .inl h2
  · exact .inr ⟨g, cap, cur, hv, Nat.le_trans hB hg, r⟩
theorem OwnF.nil (B : Nat) (w : World) : OwnF B w (.slice none 0 0) [] := ⟨rfl, .inl ⟨rfl, rfl⟩⟩
theorem OwnF.shape {B : Nat} {w : World} {v : Value} {l : List Nat} (h : OwnF B w v l) : ∃ a c, v = .slice a l.length c ∧ l.length ≤ c ∧ RdF w a l := by
  rcases h.2 with ⟨h1, h2⟩ | ⟨g, cap, cur, hv, hg, hh, h1, h2, h3, h4⟩
  · refine ⟨none, 0, by rw [h1, h2], by omega, ?_⟩
    intro j hj; omega
  · refine ⟨_, cap, hv, h1, ?_⟩
    intro j hj
    refine ⟨g, 0, rfl, ?_⟩
    rw [cell_of_row w g _ cur 57 (0, 0) hh, ← UF_get l j hj, ← h4]
    simp [hj]
end Go.Proofs.YtieheijcfiijmaaDoor
