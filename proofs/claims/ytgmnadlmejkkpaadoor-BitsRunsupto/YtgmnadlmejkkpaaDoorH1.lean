import Derived.Test.YtgmnadlmejkkpaaDoorD6
set_option linter.unusedVariables false
set_option linter.unusedSimpArgs false
namespace Go.Proofs.YtgmnadlmejkkpaaDoor
open Go.RowKit
/-- Whole numbers as cells. -/
def UI (l : List Nat) : List Value := l.map (fun x => Value.int .i64 (x : Nat))
theorem UI_get (l : List Nat) (j : Nat) (h : j < l.length) : (UI l)[j]? = some (.int .i64 (l.getD j 0 : Nat)) := by simp [UI, List.getD, h]
def RdI (w : World) (a : Option Addr) (l : List Nat) : Prop :=
  ∀ j, j < l.length → ∃ b o, a = some ⟨b, o, none⟩ ∧ w.cell? ⟨b, o + j, none⟩ = some (.int .i64 (l.getD j 0 : Nat))
theorem RdI.keep {w w' : World} {a : Option Addr} {l : List Nat} (h : RdI w a l) (k : Keep w w') : RdI w' a l := by
  intro j hj
  obtain ⟨b, o, e, hc⟩ := h j hj
  exact ⟨b, o, e, k.cell hc⟩
theorem i3 : (Tryd.prog.info? 3).map (fun i => (i.zero, i.size, i.bytes)) = some (some (.int .i64 0), 1, 8) := by kernel_rfl
/-- A slice that owns its limbs (made by append). -/
def OwnI (B : Nat) (w : World) (v : Value) (l : List Nat) : Prop := w.ownsRow B 3 1 v l.length (UI l)
theorem OwnI.keep {B : Nat} {w w' : World} {v : Value} {l : List Nat} (h : OwnI B w v l) (k : Keep w w') : OwnI B w' v l := by
  refine ⟨h.1, ?_⟩
  rcases h.2 with h2 | ⟨g, cap, cur, hv, hg, hh, r⟩
  · exact .inl h2
  · exact .inr ⟨g, cap, cur, hv, hg, by rw [k.block g (Array.getElem?_eq_some_iff.1 hh).1]; exact hh, r⟩
theorem OwnI.mono {B B' : Nat} {w : World} {v : Value} {l : List Nat} (h : OwnI B w v l) (hB : B' ≤ B) : OwnI B' w v l := by
  refine ⟨h.1, ?_⟩
  rcases h.2 with h2 | ⟨g, cap, cur, hv, hg, r⟩
  · exact .inl h2
  · exact .inr ⟨g, cap, cur, hv, by omega, r⟩
theorem OwnI.shape {B : Nat} {w : World} {v : Value} {l : List Nat} (h : OwnI B w v l) : ∃ a c, v = .slice a l.length c ∧ l.length ≤ c ∧ RdI w a l := by
  rcases h.2 with ⟨h1, h2⟩ | ⟨g, cap, cur, hv, hg, hh, h1, h2, h3, h4⟩
  · exact ⟨none, 0, by rw [h1, h2], by omega, fun j hj => by omega⟩
  · refine ⟨some ⟨g, 0, none⟩, cap, hv, h1, ?_⟩
    intro j hj
    refine ⟨g, 0, rfl, ?_⟩
    rw [Nat.zero_add, cell_of_row w g j cur 3 (0, 0) hh, ← UI_get l j hj, ← h4]
    simp [hj]
/-- out = append(out, x). -/
theorem wpList_appI {w0 wr : World} {ops : Array Oper} {rest : List Oper} {o : Oper} {a : Act} {Q : Exit → Act → World → Prop} (hgd : o.guard = none) (s x : Operand)
    (ho : o.op = .call { callee := .builtin .append, args := #[s, x], argTypes := #[40, 40] }) (l : List Nat) (v : Value) (hs : a.eval s = v) (Y : Int) (y : Nat) (hY : Y = (y : Int))
    (hx : a.eval x = .slice (some ⟨wr.heap.size, 0, none⟩) 1 1) (hown : OwnI w0.heap.size wr v l) (hk : Keep w0 wr) (hlen : l.length < 17592186044416)
    (hK : ∀ v' w1, OwnI w0.heap.size w1 v' (l ++ [y]) → Keep w0 w1 → wpList Tryd.prog ops Q rest (a.put o.dst v') w1) :
    wpList Tryd.prog ops Q (o :: rest) a (wr.alloc (.cells #[.int .i64 Y] 3)) := by
  obtain ⟨i0, hi, hz0, hz1, hz2⟩ := info_parts i3
  subst hY
  refine wpList_append_own _ hgd s x 40 ho w0.heap.size 3 i0 (.int .i64 0) 1 8 Tryd.underlying40 hi hz0 hz1 hz2 rfl (by decide) v _ _ hs (hown.alloc _) ⟨wr.heap.size, 0, none⟩ 1 1 [.int .i64 (y : Int)] hx rfl ?_ ?_ ?_ ?_ ?_ ?_
  · intro j u hj
    match j, hj with
    | 0, hj => simp at hj; subst hj; simp [Addr.add]
  · intro u hu; simp at hu; subst hu; rfl
  · simp only [maxLen]; omega
  · omega
  · have := hk.le; simp; omega
  · intro v' w1 h1 h2 _
    refine hK v' w1 ?_ ?_
    · unfold OwnI; simpa [UI] using h1
    · refine Below.grown (hk.alloc _) h2 (by have := hk.le; simp; omega) ?_
      intro k hk'
      have := hown.lt k hk'
      exact this.1
theorem OwnI.nil (B : Nat) (w : World) : OwnI B w (.slice none 0 0) [] := ⟨rfl, .inl ⟨rfl, rfl⟩⟩
end Go.Proofs.YtgmnadlmejkkpaaDoor
