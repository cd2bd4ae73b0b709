import Derived.Test.YtinjikoocegooaaGreatDoorK2
import Derived.Test.YtinjikoocegooaaGreatDoorV2
set_option linter.unusedVariables false
set_option linter.unusedSimpArgs false
namespace Go.Proofs.YtinjikoocegooaaGreatDoor
open Go.RowKit Go.Shelf
attribute [local go_sem] run_store_float
def lf4 : Nd := { kd := 1, vl := 4, ft := 0, th := 0, cs := [], ms := 0, lf := 0, rt := 0 }
abbrev sts4 : List (Int × List Nd) := [(0, [lf4])]
theorem ch_small4 : chB ⟨#[109]⟩ sfs 1 [3] sts4 = (0, 0, 0) := by decide +kernel
theorem sc_small4 : scS 1 1 [3] sts4 [0] = ([7], 0) := by decide +kernel
theorem small_rd4 {w : World} {f b n t : Nat} (hT : Kt w) (hf : w.heap[f]? = some (.cells #[.string ⟨#[97]⟩] 9 (0, 0))) (hb : w.heap[b]? = some (.cells #[.int .i64 3] 2 (0, 0))) (hn : w.heap[n]? = some (.cells (nvs lf4 none 0) 81 (0, 0))) (ht : w.heap[t]? = some (.cells #[.int .i64 0, .slice (some ⟨n, 0, none⟩) 1 1] 48 (0, 0))) :
    EnA w ⟨#[109]⟩ (some ⟨f, 0, none⟩) sfs (some ⟨b, 0, none⟩) [3] (some ⟨t, 0, none⟩) sts4 := by
  obtain ⟨f0, -⟩ := cells1 hf
  obtain ⟨b0, -⟩ := cells1 hb
  obtain ⟨c0, c1, c2, c3, c4, c5, c6, c7⟩ := cells8 hn
  obtain ⟨t0, t1, -, -⟩ := cells2 ht
  refine ⟨hT, by decide, ?_, by decide, ?_, by decide, ?_, ?_, by decide, ?_, ?_⟩
  · intro j hj
    match j, hj with
    | 0, _ => exact ⟨f, 0, rfl, f0⟩
  · intro j hj
    match j, hj with
    | 0, _ => decide
  · intro j hj
    match j, hj with
    | 0, _ => exact ⟨b, 0, rfl, b0⟩
  · intro x hx
    simp at hx; subst hx; decide
  · intro j hj
    match j, hj with
    | 0, _ => decide
  · intro j hj
    match j, hj with
    | 0, _ =>
      refine ⟨t, 0, some ⟨n, 0, none⟩, 1, rfl, t0, t1, ?_, by decide⟩
      intro i hi
      match i, hi with
      | 0, _ => exact ⟨n, 0, none, 0, rfl, ⟨c0, c1, c2, c3, c4, c5, c6, c7, by intro q hq; exact absurd hq (by simp [lf4]), by decide, by decide, by constructor <;> decide⟩⟩
set_option maxRecDepth 100000 in
set_option maxHeartbeats 1000000 in
theorem leaf_four (w : World) : Calls Tryz.prog 14 #[.int .i64 4] w fun e w' => ∃ n, e = .returned (.agg #[.int .i64 0, .slice (some ⟨n, 0, none⟩) 1 1]) ∧ w'.heap[n]? = some (.cells (nvs lf4 none 0) 81 (0, 0)) ∧ Keep w w' := by
  obtain ⟨w1, hw1, k1, t1, s1⟩ := boxed w #[.int .i64 0, .slice none 0 0] 48
  obtain ⟨w2, hw2, k2, t2, s2⟩ := boxed w1 #[.int .u8 1, .int .i64 4, .int .i64 0, .float .f64 0, .slice none 0 0, .int .u8 0, .int .i64 0, .int .i64 0] 81
  rw [s1] at t2 s2
  have q1 := k2.at t1
  obtain ⟨a0, a1, f0, f1⟩ := cells2 q1
  go_enter Tryz.func14, Tryz.ntmps14
  go_wp2_with (first | rw [hw1] | rw [hw2])
  have h := heap2 w2 w.heap.size (.int .i64 0) (.slice (some ⟨w.heap.size + 1, 0, none⟩) 1 1) q1
  refine bodyPost_ret (results_cell_row rfl _ _ w.heap.size 48 _ (0, 0) _ rfl h Tryz.underlying48 rfl (by kernel_rfl)) rfl ⟨w.heap.size + 1, rfl, ?_, ?_⟩
  · rw [neq_set _ _ _ _ _ (by omega), neq_set _ _ _ _ _ (by omega)]
    exact t2
  · exact ((k1.trans k2).setCell (p := ⟨w.heap.size, 0, none⟩) (Nat.le_refl _) _).setCell (p := ⟨w.heap.size, 1, none⟩) (Nat.le_refl _) _
set_option maxRecDepth 100000 in
set_option maxHeartbeats 1000000 in
theorem alive_any (w : World) (hT : Kt w) : Calls Tryz.prog 4 #[] w fun e w' => e = .returned (.bool true) ∧ Keep w w' := by
  obtain ⟨w1, hw1, k1, t1, s1⟩ := boxed w #[.string ⟨#[97]⟩] 9
  obtain ⟨w2, hw2, k2, t2, s2⟩ := boxed w1 #[.int .i64 3] 2
  rw [s1] at t2 s2
  have hL := leaf_four w2
  go_enter Tryz.func4, Tryz.ntmps4
  go_wp2_with (first
    | rw [hw1]
    | rw [hw2]
    | (go_at_call 14; refine hL.mono ?_; rintro e w3 ⟨n, rfl, t3, k3⟩
       obtain ⟨w4, hw4, k4, t4, s4⟩ := boxed w3 #[.int .i64 0, .slice (some ⟨n, 0, none⟩) 1 1] 48
       obtain ⟨w5, hw5, k5, t5, s5⟩ := boxed w4 (ev ⟨#[109]⟩ (some ⟨w.heap.size, 0, none⟩) 1 1 1 (some ⟨w.heap.size + 1, 0, none⟩) 1 1 (some ⟨w3.heap.size, 0, none⟩) 1 1) 26
       rw [s4] at t5 s5
       obtain ⟨w6, hw6, k6, t6, s6⟩ := boxed w5 #[.float .f64 0] 55
       rw [s5] at t6 s6
       have hE := small_rd4 (w := w6) (hT.keep (k1.trans (k2.trans (k3.trans (k4.trans (k5.trans k6)))))) ((k2.trans (k3.trans (k4.trans (k5.trans k6)))).at t1) ((k3.trans (k4.trans (k5.trans k6))).at t2) ((k4.trans (k5.trans k6)).at t3) ((k5.trans k6).at t4)
       obtain ⟨z0, z1, z2, z3, z4⟩ := cells5 (k6.at t5)
       obtain ⟨j0, j1, j2, j3, j4⟩ := cells5 t5
       obtain ⟨x0, -⟩ := cells1 t6
       have hS := Score_any ⟨#[109]⟩ (some ⟨w.heap.size, 0, none⟩) 1 1 1 (some ⟨w.heap.size + 1, 0, none⟩) [3] 1 (some ⟨w3.heap.size, 0, none⟩) sts4 1 (some ⟨w3.heap.size + 1 + 1, 0, none⟩) [0] 1 w6 hE.er.rb (by decide) (by decide) hE.er.rt (by decide) (by intro j hj; match j, hj with | 0, _ => exact ⟨w3.heap.size + 1 + 1, 0, rfl, x0⟩) (by decide) (by decide)
       rw [sc_small4] at hS
       unfold ens at hS
       have hV := fun wx (q : Keep w6 wx) => Valid_any ⟨#[109]⟩ (some ⟨w.heap.size, 0, none⟩) sfs 1 1 (some ⟨w.heap.size + 1, 0, none⟩) [3] 1 (some ⟨w3.heap.size, 0, none⟩) sts4 1 wx (hE.keep q)
       rw [ch_small4] at hV)
    | rw [hw4]
    | rw [hw5]
    | rw [hw6]
    | (go_at_call 8; refine hS.mono ?_; rintro e w7 ⟨v, rfl, ow, k7⟩
       obtain ⟨av, cv, rfl, -, hrv⟩ := ow.shape
       obtain ⟨bb, bo, rfl, c7⟩ := hrv 0 (by decide)
       obtain ⟨y0, y1, y2, y3, y4⟩ := cells5 ((k6.trans k7).at t5)
       replace c7 : w7.cell? ⟨bb, bo, none⟩ = some (.int .i64 7) := c7
       have hV7 := hV w7 k7)
    | (go_at_call 5; refine hV7.mono ?_; rintro e w8 ⟨rfl, k8⟩))
  go_ret
  exact ⟨rfl, (k1.trans (k2.trans (k3.trans (k4.trans (k5.trans k6))))).trans (k7.trans k8)⟩
end Go.Proofs.YtinjikoocegooaaGreatDoor
