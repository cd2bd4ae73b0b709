import Derived.Test.YtmknpgkpplfbkaaQ4
set_option linter.unusedVariables false
set_option linter.unusedSimpArgs false
namespace Go.Proofs.Ytmknpgkpplfbkaa
open Go.RowKit Lb
theorem heap3 (w : World) (g : Nat) {x0 x1 x2 : Value} (v0 v1 v2 : Value) (h : w.heap[g]? = some (.cells #[x0, x1, x2] 37 (0, 0))) :
    (((w.setCell ⟨g, 0, none⟩ v0).setCell ⟨g, 1, none⟩ v1).setCell ⟨g, 2, none⟩ v2).heap[g]? = some (.cells #[v0, v1, v2] 37 (0, 0)) := by
  have a0 := heap_setCell_same w g 0 _ 37 v0 h
  have a1 := heap_setCell_same _ g 1 _ 37 v1 a0
  have a2 := heap_setCell_same _ g 2 _ 37 v2 a1
  simpa using a2
theorem results_box {fn : Func} {t u : Tmp} (h : fn.results = #[.cell t 37, .tmp u]) (tmps : Array Value) (w : World) (g : Nat) (v0 v1 v2 : Value) (hp : tmps.getD t undef = .pointer (some ⟨g, 0, none⟩)) (hh : w.heap[g]? = some (.cells #[v0, v1, v2] 37 (0, 0))) :
    (results fn tmps).run Try.prog w = .ok (.tuple #[.agg #[v0, v1, v2], tmps.getD u undef]) w := by
  have c0 := cell_of_row _ _ 0 _ 37 (0, 0) hh
  have c1 := cell_of_row _ _ 1 _ 37 (0, 0) hh
  have c2 := cell_of_row _ _ 2 _ 37 (0, 0) hh
  simp only [List.getElem?_toArray, List.getElem?_cons_zero, List.getElem?_cons_succ] at c0 c1 c2
  have hp' : (tmps[t]?).getD undef = .pointer (some ⟨g, 0, none⟩) := by simpa using hp
  simp [results, h, hp, hp', go_sem, c0, c1, c2]
set_option maxRecDepth 100000 in
theorem Quotient_none (b : Nat) (hb : b < 18446744073709551616) (hf : pField b = 2047) (w : World) :
    Calls Try.prog 8 #[.float .f64 b] w fun e w' => e = .returned (.tuple #[.agg #[.bool false, .slice none 0 0, .slice none 0 0], .int .i64 60]) ∧ Keep w w' := by
  obtain ⟨w1, hw1, k0, tb⟩ : ∃ w1, w.alloc (Obj.cells #[Value.bool false, Value.slice none 0 0, Value.slice none 0 0] 37) = w1 ∧ Keep w w1 ∧ w1.heap[w.heap.size]? = some (Obj.cells #[Value.bool false, Value.slice none 0 0, Value.slice none 0 0] 37 (0, 0)) := ⟨_, rfl, (Keep.refl w).alloc _, heap_alloc_new w _⟩
  have hP := Parts_any b hb w1
  have hk : pKind b = 3 ∨ pKind b = 4 := by
    unfold pKind
    rw [if_pos hf]
    split
    · exact .inl rfl
    · exact .inr rfl
  have hz : w.heap.size < w1.heap.size := (Array.getElem?_eq_some_iff.1 tb).1
  replace hw1 : Hid _ := hw1
  generalize pKind b = Kd at *
  generalize pM b = M at *
  generalize pE b = E at *
  generalize pNeg b = ng at *
  rcases hk with rfl | rfl
  all_goals
    go_enter Try.func8, Try.ntmps8
    go_wp2_with fail
    rw [hw1.out]
    refine hP.mono ?_
    rintro e w2 ⟨rfl, k2⟩
    have t2 := (k2.block _ hz).trans tb
    have c0 := cell_of_row _ _ 0 _ 37 (0, 0) t2
    have c1 := cell_of_row _ _ 1 _ 37 (0, 0) t2
    have c2 := cell_of_row _ _ 2 _ 37 (0, 0) t2
    have f0 := frozen_of_row _ _ 0 _ 37 t2
    have f1 := frozen_of_row _ _ 1 _ 37 t2
    have f2 := frozen_of_row _ _ 2 _ 37 t2
    simp only [List.getElem?_toArray, List.getElem?_cons_zero, List.getElem?_cons_succ] at c0 c1 c2
    go_wp2_with fail
    have kf := (((k0.trans k2).setCell (p := ⟨w.heap.size, 0, none⟩) (Nat.le_refl _) (Value.bool false)).setCell (p := ⟨w.heap.size, 1, none⟩) (Nat.le_refl _) (Value.slice none 0 0)).setCell (p := ⟨w.heap.size, 2, none⟩) (Nat.le_refl _) (Value.slice none 0 0)
    have g2 := heap3 w2 w.heap.size (Value.bool false) (Value.slice none 0 0) (Value.slice none 0 0) t2
    exact bodyPost_ret (results_box rfl _ _ w.heap.size _ _ _ rfl g2) rfl ⟨rfl, kf⟩
end Go.Proofs.Ytmknpgkpplfbkaa
