import Derived.Test.YtgmnadlmejkkpaaDoorD4
set_option linter.unusedVariables false
set_option linter.unusedSimpArgs false
namespace Go.Proofs.YtgmnadlmejkkpaaDoor
open Go.RowKit
theorem row_new (w : World) (l : List Nat) : Row (w.alloc (Obj.cells (U l).toArray 59)) w.heap.size l := heap_alloc_new w _
theorem mkl_nine : mkl 4 (fun i => !decide (1 ≤ i ∧ i < 3)) [9] := by
  refine ⟨rfl, by intro x hx; simp at hx; omega, ?_⟩
  intro i
  by_cases h : i < 64
  · have : ∀ i, i < 64 → hs [9] i = (decide (i < 4) && !decide (1 ≤ i ∧ i < 3)) := by decide
    exact this i h
  · rw [hs_out (by simp; omega), decide_eq_false (by omega), Bool.false_and]
theorem hs_five (i : Nat) (h : 3 ≤ i) : hs [5] i = false := by
  by_cases h2 : i < 64
  · have : ∀ i, i < 64 → 3 ≤ i → hs [5] i = false := by decide
    exact this i h2 h
  · exact hs_out (by simp; omega)
theorem W64_lit {l : List Nat} (h : l.all (fun x => decide (x < 18446744073709551616)) = true) : W64 l := by
  intro x hx
  have := List.all_eq_true.1 h x hx
  simpa using this
set_option maxRecDepth 100000 in
set_option maxHeartbeats 1000000 in
theorem lives_any (w : World) (hT : Tab w) : Calls Tryd.prog 20 #[] w fun e w' => e = .returned (.bool true) ∧ Keep w w' := by
  have hM := Mask_ok 4 1 3 w (by omega) (by omega) (by omega)
  have hW := fun w => Words_any 65 w
  rw [show wdN 65 = 2 by decide, show wdE 65 = 0 by decide] at hW
  have hP := fun wx a c (h : Rd wx a [5]) => Print_ok a c 3 [5] wx (by omega) rfl h (W64_lit (by decide)) hs_five
  rw [show S8 (dg [5] 3) = ⟨#[49, 48, 49]⟩ by decide] at hP
  have hL := fun wx a c (h : Rd wx a [0, 4]) (ht : Tab wx) => Lowest_any a c [0, 4] wx (by decide) h (W64_lit (by decide)) ht
  rw [show selI [0, 4] 0 = 66 by decide +kernel] at hL
  have hC := fun wx a c (h : Rd wx a [7, 1]) => Count_any a c [7, 1] wx (by decide) h (W64_lit (by decide))
  rw [show cn [7, 1] (64 * [7, 1].length) = 4 by decide +kernel] at hC
  go_enter Tryd.func20, Tryd.ntmps20
  go_wp2_with first
    | (go_at_call 15; refine hM.mono ?_; rintro e w1 ⟨l, rfl, hr1, hm1, k1⟩; obtain rfl := mkl_eq hm1 mkl_nine)
    | (go_at_call 12; refine (hW _).mono ?_; rintro e w' ⟨rfl, rfl⟩)
  have r5 : Row (w'.alloc (Obj.cells #[Value.int IntKind.u64 5] 59)) w'.heap.size [5] := row_new w' [5]
  have k2 : Keep w' (w'.alloc (Obj.cells #[Value.int IntKind.u64 5] 59)) := (Keep.refl w').alloc _
  generalize w'.alloc _ = w2 at r5 k2 ⊢
  have h5 := hP w2 (some ⟨w'.heap.size, 0, none⟩) 1 (by have := r5.rd 0 1 (by decide); exact this)
  refine h5.mono ?_
  rintro e w3 ⟨rfl, k3⟩
  have k13 := (k1.trans k2).trans k3
  have c9 := (hr1.keep (k2.trans k3)).cell 0 (by decide)
  have t3 := hT.keep k13
  have r4 : Row (w3.alloc (Obj.cells #[Value.int IntKind.u64 0, Value.int IntKind.u64 4] 59)) w3.heap.size [0, 4] := row_new w3 [0, 4]
  have k4 : Keep w3 (w3.alloc (Obj.cells #[Value.int IntKind.u64 0, Value.int IntKind.u64 4] 59)) := (Keep.refl w3).alloc _
  clear hM hW hP h5
  simp only [List.getD] at c9
  go_wp2_with fail
  have k14 := k13.trans k4
  generalize w3.alloc _ = w4 at r4 k4 k14 ⊢
  refine (hL w4 (some ⟨w3.heap.size, 0, none⟩) 2 (by have := r4.rd 0 2 (by decide); exact this) (t3.keep k4)).mono ?_
  rintro e w5 ⟨rfl, rfl⟩
  have r7 : Row (w5.alloc (Obj.cells #[Value.int IntKind.u64 7, Value.int IntKind.u64 1] 59)) w5.heap.size [7, 1] := row_new w5 [7, 1]
  have k6 : Keep w5 (w5.alloc (Obj.cells #[Value.int IntKind.u64 7, Value.int IntKind.u64 1] 59)) := (Keep.refl w5).alloc _
  go_wp2_with fail
  generalize w5.alloc _ = w6 at r7 k6 ⊢
  refine (hC w6 (some ⟨w5.heap.size, 0, none⟩) 2 (by have := r7.rd 0 2 (by decide); exact this)).mono ?_
  rintro e w7 ⟨rfl, rfl⟩
  go_wp2_with fail
  go_ret
  exact ⟨rfl, k14.trans k6⟩
end Go.Proofs.YtgmnadlmejkkpaaDoor
