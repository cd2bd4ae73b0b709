import Derived.Test.YtodegcobkngmlaaDoorCS2
set_option linter.unusedVariables false
set_option linter.unusedSimpArgs false
namespace Go.Proofs.YtodegcobkngmlaaDoor
open Go.RowKit Go.Shelf
set_option maxRecDepth 100000 in
set_option maxHeartbeats 1000000 in
theorem narrow_any (g o : Nat) (cs : Array Value) (a b ta tb v : Int) (w : World) (hg : w.heap[g]? = some (.cells cs 37 (0, 0))) (ha : cs[o]? = some (.int .i64 a)) (hb : cs[o + 1]? = some (.int .i64 b))
    (h1 : -9223372036854775808 ≤ a - ta ∧ a - ta ≤ 9223372036854775807) (h2 : -9223372036854775808 ≤ b - tb ∧ b - tb ≤ 9223372036854775807) (h3 : -9223372036854775808 ≤ a - ta + v ∧ a - ta + v ≤ 9223372036854775807) (h4 : -9223372036854775808 ≤ b - tb + v ∧ b - tb + v ≤ 9223372036854775807) :
    Calls Tryd.prog 29 #[.pointer (some ⟨g, o, none⟩), .agg #[.int .i64 ta, .int .i64 tb], .int .i64 v] w fun e w' => (∃ u, e = .returned u) ∧ w'.heap[g]? = some (.cells ((cs.setIfInBounds o (.int .i64 (a - ta + v))).setIfInBounds (o + 1) (.int .i64 (b - tb + v))) 37 (0, 0)) ∧ (∀ k, k < w.heap.size → k ≠ g → w'.heap[k]? = w.heap[k]?) ∧ w.heap.size ≤ w'.heap.size ∧ (∀ w0, Keep w0 w → w0.heap.size ≤ g → Keep w0 w') := by
  obtain ⟨w1, hw1, k1, t1, s1⟩ := boxed w #[.int .i64 ta, .int .i64 tb] 37
  have hgl : g < w.heap.size := lt_of_at hg
  obtain ⟨d, hd⟩ : ∃ d, w.heap.size = d := ⟨_, rfl⟩
  rw [hd] at t1 hgl
  have G1 := k1.at hg
  obtain ⟨b0, b1, -, -⟩ := cells2 t1
  have c0 : w1.cell? ⟨g, o, none⟩ = some (.int .i64 a) := by rw [cell_of_row _ _ _ _ 37 (0, 0) G1]; exact ha
  have c1 : w1.cell? ⟨g, o + 1, none⟩ = some (.int .i64 b) := by rw [cell_of_row _ _ _ _ 37 (0, 0) G1]; exact hb
  have f0 := frozen_of_row _ _ o _ 37 G1
  have f1 := frozen_of_row _ _ (o + 1) _ 37 G1
  have r1 : IntKind.i64.wrap (a - ta) = a - ta := by rw [IntWalk.i64_left]; exact IntWalk.wrap64_in _ h1
  have r2 : IntKind.i64.wrap (b - tb) = b - tb := by rw [IntWalk.i64_left]; exact IntWalk.wrap64_in _ h2
  have r3 : IntKind.i64.wrap (a - ta + v) = a - ta + v := by rw [IntWalk.i64_left]; exact IntWalk.wrap64_in _ h3
  have r4 : IntKind.i64.wrap (b - tb + v) = b - tb + v := by rw [IntWalk.i64_left]; exact IntWalk.wrap64_in _ h4
  replace s1 : Hid _ := s1
  go_enter Tryd.func29, Tryd.ntmps29
  go_wp2_with (rw [hw1])
  go_region
  all_goals
    go_wp2_with fail
    have e1 := heap_setCell_same w1 g o _ 37 (.int .i64 (a - ta + v)) G1
    have e2 := heap_setCell_same _ g (o + 1) _ 37 (.int .i64 (b - tb + v)) e1
    have ne : ∀ k, k ≠ g → ((w1.setCell ⟨g, o, none⟩ (.int .i64 (a - ta + v))).setCell ⟨g, o + 1, none⟩ (.int .i64 (b - tb + v))).heap[k]? = w1.heap[k]? := fun k hk => by rw [neq_set _ _ _ _ k hk, neq_set _ _ _ _ k hk]
    refine bodyPost_end (v := .tuple #[]) (by kernel_rfl) rfl ⟨⟨_, rfl⟩, e2, fun k hk hkg => (ne k hkg).trans (k1.block k hk), ?_, fun w0 q hq => ?_⟩
    · show w.heap.size ≤ ((w1.setCell ⟨g, o, none⟩ (.int .i64 (a - ta + v))).setCell ⟨g, o + 1, none⟩ (.int .i64 (b - tb + v))).heap.size
      rw [World.size_setCell, World.size_setCell]
      exact k1.le
    · exact (((q.trans k1).setCell (p := ⟨g, o, none⟩) hq _).setCell (p := ⟨g, o + 1, none⟩) hq _).drew
end Go.Proofs.YtodegcobkngmlaaDoor
