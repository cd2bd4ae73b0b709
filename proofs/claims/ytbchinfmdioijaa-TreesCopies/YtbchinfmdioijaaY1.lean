import Derived.Test.YtbchinfmdioijaaX4
set_option linter.unusedVariables false
set_option linter.unusedSimpArgs false
namespace Go.Proofs.Ytbchinfmdioijaa
open Go.RowKit Go.Shelf
theorem NaN_any (w : World) : Calls Try.prog 47 #[] w fun e w' => e = .returned (.float .f64 9221120237041090561) ∧ w' = w := by
  have hf : ∀ w : World, (callFunc 78 #[.int .u64 9221120237041090561]).run Try.prog w = .ok (.value (.float .f64 9221120237041090561)) w := f64from 9221120237041090561
  go_enter Try.func47, Try.ntmps47
  go_wp2_with fail
  go_ret
  exact ⟨rfl, rfl⟩
/-- The document's example. -/
def smpL : List Nd := [⟨2, 0, 1, 4602678819172646912, [], 2, 2, 1⟩, ⟨1, 30, 0, 0, [], 0, 0, 0⟩, ⟨3, 0, 0, 0, [1, 3], 1, 3, 4⟩, ⟨1, 10, 0, 0, [], 0, 0, 0⟩, ⟨1, 20, 0, 0, [], 0, 0, 0⟩]
theorem smp_shE : shE smpL = 0 := by decide +kernel
theorem smp_lvs : lvs smpL = [3, 4, 1] := by decide +kernel
theorem smp_lf : lfK smpL [4611686018427387904, 4602678819172646912] = 1 ∧ lfV smpL [4611686018427387904, 4602678819172646912] = 20 ∧ wyE smpL 2 = 0 := by decide +kernel
theorem smp_sc : scS 2 1 [7] [(0, smpL)] [0, 9221120237041090561] = ([37], 0) := by decide +kernel
theorem smp_gs : gsS (smpL.getD 0 nd0) 4602678819172646912 = 1 := by decide +kernel
def smpC (w : World) : Array Value := #[.int .u8 2, .int .i64 0, .int .i64 1, .float .f64 4602678819172646912, .slice none 0 0, .int .u8 2, .int .i64 2, .int .i64 1, .int .u8 1, .int .i64 30, .int .i64 0, .float .f64 0, .slice none 0 0, .int .u8 0, .int .i64 0, .int .i64 0, .int .u8 3, .int .i64 0, .int .i64 0, .float .f64 0, .slice (some ⟨w.heap.size + 1, 0, none⟩) 2 2, .int .u8 1, .int .i64 3, .int .i64 4, .int .u8 1, .int .i64 10, .int .i64 0, .float .f64 0, .slice none 0 0, .int .u8 0, .int .i64 0, .int .i64 0, .int .u8 1, .int .i64 20, .int .i64 0, .float .f64 0, .slice none 0 0, .int .u8 0, .int .i64 0, .int .i64 0]
set_option maxRecDepth 100000 in
set_option maxHeartbeats 1000000 in
theorem sample_any (w : World) : Calls Try.prog 46 #[] w fun e w' => ∃ a, e = .returned (.agg #[.int .i64 0, .slice a 5 5]) ∧ RdN w' a smpL ∧ Keep w w' := by
  go_enter Try.func46, Try.ntmps46
  go_wp2_with fail
  have hw : ∃ W, (((w.alloc (Obj.cells #[Value.int IntKind.i64 0, Value.slice (some ⟨w.heap.size + 1 + 1, 0, none⟩) 5 5] 24)).alloc (Obj.cells #[Value.int IntKind.i64 1, Value.int IntKind.i64 3] 3)).alloc (Obj.cells (smpC w) 40)) = W ∧ Keep w W ∧ W.heap[w.heap.size]? = some (Obj.cells #[Value.int IntKind.i64 0, Value.slice (some ⟨w.heap.size + 1 + 1, 0, none⟩) 5 5] 24 (0, 0)) ∧ W.heap[w.heap.size + 1]? = some (Obj.cells #[Value.int IntKind.i64 1, Value.int IntKind.i64 3] 3 (0, 0)) ∧ W.heap[w.heap.size + 1 + 1]? = some (Obj.cells (smpC w) 40 (0, 0)) := by
    refine ⟨_, rfl, (((Keep.refl w).alloc _).alloc _).alloc _, ?_, ?_, ?_⟩
    · exact (Below.heap_alloc _ _ _ (by simp; omega)).trans ((Below.heap_alloc _ _ _ (by simp)).trans (heap_alloc_new w _))
    · have := heap_alloc_new (w.alloc (Obj.cells #[Value.int IntKind.i64 0, Value.slice (some ⟨w.heap.size + 1 + 1, 0, none⟩) 5 5] 24)) (Obj.cells #[Value.int IntKind.i64 1, Value.int IntKind.i64 3] 3)
      rw [World.size_alloc] at this
      exact (Below.heap_alloc _ _ _ (by simp)).trans this
    · have := heap_alloc_new ((w.alloc (Obj.cells #[Value.int IntKind.i64 0, Value.slice (some ⟨w.heap.size + 1 + 1, 0, none⟩) 5 5] 24)).alloc (Obj.cells #[Value.int IntKind.i64 1, Value.int IntKind.i64 3] 3)) (Obj.cells (smpC w) 40)
      rw [World.size_alloc, World.size_alloc] at this
      exact this
  obtain ⟨W, hW, kW, b0, b1, b2⟩ := hw
  unfold smpC at hW
  rw [hW]
  have r0 : W.cell? ⟨w.heap.size, 0, none⟩ = some (.int .i64 0) := by rw [cell_of_row _ _ 0 _ 24 (0, 0) b0]; rfl
  have r1 : W.cell? ⟨w.heap.size, 1, none⟩ = some (.slice (some ⟨w.heap.size + 1 + 1, 0, none⟩) 5 5) := by rw [cell_of_row _ _ 1 _ 24 (0, 0) b0]; rfl
  refine bodyPost_ret (v := .agg #[.int .i64 0, .slice (some ⟨w.heap.size + 1 + 1, 0, none⟩) 5 5]) (by simp [results, Try.results46, go_sem, r0, r1]) rfl ?_
  refine ⟨_, rfl, ?_, kW⟩
  have cell : ∀ j v, (smpC w)[j]? = some v → W.cell? ⟨w.heap.size + 1 + 1, j, none⟩ = some v := fun j v h => by rw [cell_of_row _ _ j _ 40 (0, 0) b2]; exact h
  have none0 : ∀ a, RdI W a [] := RdI.nil W
  have two : RdI W (some ⟨w.heap.size + 1, 0, none⟩) [1, 3] := by
    intro j hj
    refine ⟨_, _, rfl, ?_⟩
    rw [Nat.zero_add, cell_of_row _ _ j _ 3 (0, 0) b1]
    match j, hj with
    | 0, _ => rfl
    | 1, _ => rfl
  intro j hj
  have fits : ∀ n ∈ smpL, n.Fit := by
    intro n hn
    simp only [smpL, List.mem_cons, List.not_mem_nil, or_false] at hn
    rcases hn with rfl | rfl | rfl | rfl | rfl <;> constructor <;> simp
  match j, hj with
  | 0, _ => exact ⟨_, _, none, 0, rfl, cell 0 _ rfl, cell 1 _ rfl, cell 2 _ rfl, cell 3 _ rfl, cell 4 _ rfl, cell 5 _ rfl, cell 6 _ rfl, cell 7 _ rfl, none0 _, by decide, by decide, fits _ (by simp [smpL])⟩
  | 1, _ => exact ⟨_, _, none, 0, rfl, cell 8 _ rfl, cell 9 _ rfl, cell 10 _ rfl, cell 11 _ rfl, cell 12 _ rfl, cell 13 _ rfl, cell 14 _ rfl, cell 15 _ rfl, none0 _, by decide, by decide, fits _ (by simp [smpL])⟩
  | 2, _ => exact ⟨_, _, _, 2, rfl, cell 16 _ rfl, cell 17 _ rfl, cell 18 _ rfl, cell 19 _ rfl, cell 20 _ rfl, cell 21 _ rfl, cell 22 _ rfl, cell 23 _ rfl, two, by decide, by decide, fits _ (by simp [smpL])⟩
  | 3, _ => exact ⟨_, _, none, 0, rfl, cell 24 _ rfl, cell 25 _ rfl, cell 26 _ rfl, cell 27 _ rfl, cell 28 _ rfl, cell 29 _ rfl, cell 30 _ rfl, cell 31 _ rfl, none0 _, by decide, by decide, fits _ (by simp [smpL])⟩
  | 4, _ => exact ⟨_, _, none, 0, rfl, cell 32 _ rfl, cell 33 _ rfl, cell 34 _ rfl, cell 35 _ rfl, cell 36 _ rfl, cell 37 _ rfl, cell 38 _ rfl, cell 39 _ rfl, none0 _, by decide, by decide, fits _ (by simp [smpL])⟩
end Go.Proofs.Ytbchinfmdioijaa
