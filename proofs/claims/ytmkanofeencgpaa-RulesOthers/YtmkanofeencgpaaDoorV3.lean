import Derived.Test.YtmkanofeencgpaaDoorU3
set_option linter.unusedVariables false
set_option linter.unusedSimpArgs false
namespace Go.Proofs.YtmkanofeencgpaaDoor
open Go.RowKit Go.Shelf
attribute [local go_sem] run_store_float
def lf5 : Nd := { kd := 1, vl := 5, ft := 0, th := 0, cs := [], ms := 0, lf := 0, rt := 0 }
abbrev sfs : List ByteArray := [⟨#[97]⟩]
abbrev sts : List (Int × List Nd) := [(0, [lf5])]
theorem ch_small : chB ⟨#[109]⟩ sfs 1 [0] sts = (0, 0, 0) := by decide +kernel
theorem ch_none : chB ⟨#[]⟩ sfs 1 [0] sts = (1, -1, -1) := by decide +kernel
theorem lg_small : lg [lf5] = 5 := by decide +kernel
theorem ret_ens {fn : Func} {t : Tmp} (h : fn.results = #[.cell t 26]) (tmps : Array Value) (w : World) (g : Nat) (v0 v1 v2 v3 v4 : Value) (hp : tmps.getD t undef = .pointer (some ⟨g, 0, none⟩)) (hh : w.heap[g]? = some (.cells #[v0, v1, v2, v3, v4] 26 (0, 0))) :
    (results fn tmps).run Tryd.prog w = .ok (.agg #[v0, v1, v2, v3, v4]) w := results_cell_row h tmps w g 26 _ (0, 0) _ hp hh Tryd.underlying26 rfl (by kernel_rfl)
theorem heap5 {T : Nat} (w : World) (g : Nat) {x0 x1 x2 x3 x4 : Value} (v0 v1 v2 v3 v4 : Value) (h : w.heap[g]? = some (.cells #[x0, x1, x2, x3, x4] T (0, 0))) :
    (((((w.setCell ⟨g, 0, none⟩ v0).setCell ⟨g, 1, none⟩ v1).setCell ⟨g, 2, none⟩ v2).setCell ⟨g, 3, none⟩ v3).setCell ⟨g, 4, none⟩ v4).heap[g]? = some (.cells #[v0, v1, v2, v3, v4] T (0, 0)) := by
  have a0 := heap_setCell_same w g 0 _ T v0 h
  have a1 := heap_setCell_same _ g 1 _ T v1 a0
  have a2 := heap_setCell_same _ g 2 _ T v2 a1
  have a3 := heap_setCell_same _ g 3 _ T v3 a2
  have a4 := heap_setCell_same _ g 4 _ T v4 a3
  simpa using a4
theorem neq5 (w : World) (g : Nat) (v0 v1 v2 v3 v4 : Value) (k : Nat) (hk : k ≠ g) :
    (((((w.setCell ⟨g, 0, none⟩ v0).setCell ⟨g, 1, none⟩ v1).setCell ⟨g, 2, none⟩ v2).setCell ⟨g, 3, none⟩ v3).setCell ⟨g, 4, none⟩ v4).heap[k]? = w.heap[k]? := by
  rw [neq_set _ g 4 v4 k hk, neq_set _ g 3 v3 k hk, neq_set _ g 2 v2 k hk, neq_set _ g 1 v1 k hk, neq_set _ g 0 v0 k hk]
theorem keep5 {w0 w : World} (h : Keep w0 w) (g : Nat) (hg : w0.heap.size ≤ g) (v0 v1 v2 v3 v4 : Value) :
    Keep w0 (((((w.setCell ⟨g, 0, none⟩ v0).setCell ⟨g, 1, none⟩ v1).setCell ⟨g, 2, none⟩ v2).setCell ⟨g, 3, none⟩ v3).setCell ⟨g, 4, none⟩ v4) :=
  ((((h.setCell (p := ⟨g, 0, none⟩) hg v0).setCell (p := ⟨g, 1, none⟩) hg v1).setCell (p := ⟨g, 2, none⟩) hg v2).setCell (p := ⟨g, 3, none⟩) hg v3).setCell (p := ⟨g, 4, none⟩) hg v4
theorem small_rd {w : World} {f b n t : Nat} (hT : Kt w) (hf : w.heap[f]? = some (.cells #[.string ⟨#[97]⟩] 9 (0, 0))) (hb : w.heap[b]? = some (.cells #[.int .i64 0] 2 (0, 0))) (hn : w.heap[n]? = some (.cells (nvs lf5 none 0) 77 (0, 0))) (ht : w.heap[t]? = some (.cells #[.int .i64 0, .slice (some ⟨n, 0, none⟩) 1 1] 43 (0, 0))) (nm : ByteArray) (hnm : nm.size ≤ 281474976710656) :
    EnA w nm (some ⟨f, 0, none⟩) sfs (some ⟨b, 0, none⟩) [0] (some ⟨t, 0, none⟩) sts := by
  obtain ⟨f0, -⟩ := cells1 hf
  obtain ⟨b0, -⟩ := cells1 hb
  obtain ⟨c0, c1, c2, c3, c4, c5, c6, c7⟩ := cells8 hn
  obtain ⟨t0, t1, -, -⟩ := cells2 ht
  refine ⟨hT, hnm, ?_, by decide, ?_, by decide, ?_, ?_, by decide, ?_, ?_⟩
  · intro j hj
    match j, hj with
    | 0, _ => exact ⟨f, 0, rfl, f0⟩
  · intro j hj
    match j, hj with
    | 0, _ => decide
  · intro j hj
    match j, hj with
    | 0, _ => exact ⟨b, 0, rfl, b0⟩
  · intro x hx
    simp at hx; subst hx; decide
  · intro j hj
    match j, hj with
    | 0, _ => decide
  · intro j hj
    match j, hj with
    | 0, _ =>
      refine ⟨t, 0, some ⟨n, 0, none⟩, 1, rfl, t0, t1, ?_, by decide⟩
      intro i hi
      match i, hi with
      | 0, _ => exact ⟨n, 0, none, 0, rfl, ⟨c0, c1, c2, c3, c4, c5, c6, c7, by intro q hq; exact absurd hq (by simp [lf5]), by decide, by decide, by constructor <;> decide⟩⟩
set_option maxRecDepth 100000 in
set_option maxHeartbeats 1000000 in
theorem small_any (w : World) (hT : Kt w) : Calls Tryd.prog 41 #[] w fun e w' => ∃ fa ba ta, e = .returned (.agg (ev ⟨#[109]⟩ fa 1 1 1 ba 1 1 ta 1 1)) ∧ (∀ nm : ByteArray, nm.size ≤ 281474976710656 → EnA w' nm fa sfs ba [0] ta sts) ∧ Keep w w' := by
  obtain ⟨w1, hw1, k1, t1, s1⟩ := boxed w #[.string ⟨#[]⟩, .slice none 0 0, .int .i64 0, .slice none 0 0, .slice none 0 0] 26
  obtain ⟨w2, hw2, k2, t2, s2⟩ := boxed w1 #[.string ⟨#[97]⟩] 9
  obtain ⟨w3, hw3, k3, t3, s3⟩ := boxed w2 #[.int .i64 0] 2
  obtain ⟨w4, hw4, k4, t4, s4⟩ := boxed w3 #[.int .u8 1, .int .i64 5, .int .i64 0, .float .f64 0, .slice none 0 0, .int .u8 0, .int .i64 0, .int .i64 0] 77
  rw [s1] at t2 s2
  rw [s2] at t3 s3
  rw [s3] at t4 s4
  obtain ⟨w5, hw5, k5, t5, s5⟩ := boxed w4 #[.int .i64 0, .slice (some ⟨w.heap.size + 1 + 1 + 1, 0, none⟩) 1 1] 43
  rw [s4] at t5 s5
  have k15 := k2.trans (k3.trans (k4.trans k5))
  have q1 := k15.at t1
  obtain ⟨a0, a1, a2, a3, a4⟩ := cells5 q1
  obtain ⟨f0, f1, f2, f3, f4, -, -, -⟩ := frozen8 q1
  go_enter Tryd.func41, Tryd.ntmps41
  go_wp2_with (first | rw [hw1] | rw [hw2] | rw [hw3] | rw [hw4] | rw [hw5])
  have h := heap5 w5 w.heap.size (.string ⟨#[109]⟩) (.slice (some ⟨w.heap.size + 1, 0, none⟩) 1 1) (.int .i64 1) (.slice (some ⟨w.heap.size + 1 + 1, 0, none⟩) 1 1) (.slice (some ⟨w.heap.size + 1 + 1 + 1 + 1, 0, none⟩) 1 1) q1
  have e := neq5 w5 w.heap.size (.string ⟨#[109]⟩) (.slice (some ⟨w.heap.size + 1, 0, none⟩) 1 1) (.int .i64 1) (.slice (some ⟨w.heap.size + 1 + 1, 0, none⟩) 1 1) (.slice (some ⟨w.heap.size + 1 + 1 + 1 + 1, 0, none⟩) 1 1)
  have kk := keep5 (k1.trans k15) w.heap.size (Nat.le_refl _) (.string ⟨#[109]⟩) (.slice (some ⟨w.heap.size + 1, 0, none⟩) 1 1) (.int .i64 1) (.slice (some ⟨w.heap.size + 1 + 1, 0, none⟩) 1 1) (.slice (some ⟨w.heap.size + 1 + 1 + 1 + 1, 0, none⟩) 1 1)
  refine bodyPost_ret (ret_ens rfl _ _ w.heap.size _ _ _ _ _ rfl h) rfl ⟨_, _, _, rfl, fun nm hnm => ?_, kk⟩
  exact small_rd (hT.keep kk) ((e _ (by omega)).trans ((k3.trans (k4.trans k5)).at t2)) ((e _ (by omega)).trans ((k4.trans k5).at t3)) ((e _ (by omega)).trans (k5.at t4)) ((e _ (by omega)).trans t5) nm hnm
end Go.Proofs.YtmkanofeencgpaaDoor
set_option linter.unusedVariables false
set_option linter.unusedSimpArgs false
namespace Go.Proofs.YtmkanofeencgpaaDoor
open Go.RowKit Go.Shelf
attribute [local go_sem] run_store_float
attribute [local go_sem high] run_eqlB run_guardB
set_option maxRecDepth 100000 in
set_option maxHeartbeats 600000 in
theorem begins_any (w : World) (hT : Kt w) : Calls Tryd.prog 19 #[] w fun e w' => e = .returned (.bool true) ∧ Keep w w' := by
  have hS := small_any w hT
  have tokA : True := trivial
  go_enter Tryd.func19, Tryd.ntmps19
  go_wp2_with (first
    | (go_at_call 41; have _t := tokA; clear tokA; refine hS.mono ?_; rintro e w1 ⟨fa, ba, ta, rfl, E1, k1⟩
       obtain ⟨w2, hw2, k2, t2, s2⟩ := boxed w1 (ev ⟨#[109]⟩ fa 1 1 1 ba 1 1 ta 1 1) 26
       have hS2 := small_any w2 (hT.keep (k1.trans k2))
       have tokB : True := trivial)
    | (go_at_call 41; have _u := tokB; clear tokB; refine hS2.mono ?_; rintro e w3 ⟨fb, bb, tb, rfl, E3, k3⟩
       obtain ⟨w4, hw4, k4, t4, s4⟩ := boxed w3 (ev ⟨#[109]⟩ fb 1 1 1 bb 1 1 tb 1 1) 26
       obtain ⟨-, -, -, -, -, -, -, -⟩ := frozen8 t4
       obtain ⟨f0, -⟩ := frozen8 t4
       obtain ⟨a0, a1, a2, a3, a4⟩ := cells5 t4
       have h5 := heap_setCell_same w4 w3.heap.size 0 _ 26 (.string ⟨#[]⟩) t4
       obtain ⟨w5, hw5⟩ : ∃ w5, w4.setCell ⟨w3.heap.size, 0, none⟩ (.string ⟨#[]⟩) = w5 := ⟨_, rfl⟩
       have n5 := neq_set w4 w3.heap.size 0 (.string ⟨#[]⟩)
       have K5 : Keep w3 w5 := by rw [← hw5]; exact k4.setCell (p := ⟨w3.heap.size, 0, none⟩) (Nat.le_refl _) _
       rw [hw5] at h5 n5
       replace h5 : w5.heap[w3.heap.size]? = some (.cells (ev ⟨#[]⟩ fb 1 1 1 bb 1 1 tb 1 1) 26 (0, 0)) := by simpa using h5
       have q2 := (k3.trans K5).at t2
       obtain ⟨b0, b1, b2, b3, b4⟩ := cells5 q2
       obtain ⟨c0, c1, c2, c3, c4⟩ := cells5 h5
       have X1 := (E1 ⟨#[109]⟩ (by decide)).keep (k2.trans (k3.trans K5))
       have X3 := (E3 ⟨#[]⟩ (by decide)).keep K5
       have hC1 : ∀ wx, Keep w5 wx → Calls Tryd.prog 11 #[.agg (ev ⟨#[109]⟩ fa 1 1 1 ba 1 1 ta 1 1)] wx (fun e w' => e = .returned (.agg #[.int .i64 0, .int .i64 0, .int .i64 0]) ∧ Keep wx w') := fun wx q => by
         have h := Check_any ⟨#[109]⟩ fa sfs 1 1 ba [0] 1 ta sts 1 wx (X1.keep q)
         rw [ch_small] at h; exact h
       have hV1 : ∀ wx, Keep w5 wx → Calls Tryd.prog 12 #[.agg (ev ⟨#[109]⟩ fa 1 1 1 ba 1 1 ta 1 1)] wx (fun e w' => e = .returned (.bool true) ∧ Keep wx w') := fun wx q => by
         have h := Valid_any ⟨#[109]⟩ fa sfs 1 1 ba [0] 1 ta sts 1 wx (X1.keep q)
         rw [ch_small] at h; exact h
       have hC3 : ∀ wx, Keep w5 wx → Calls Tryd.prog 11 #[.agg (ev ⟨#[]⟩ fb 1 1 1 bb 1 1 tb 1 1)] wx (fun e w' => e = .returned (.agg #[.int .i64 1, .int .i64 (-1), .int .i64 (-1)]) ∧ Keep wx w') := fun wx q => by
         have h := Check_any ⟨#[]⟩ fb sfs 1 1 bb [0] 1 tb sts 1 wx (X3.keep q)
         rw [ch_none] at h; exact h
       obtain ⟨tB, tO, na, nc, rfl, y0, y1, hrn, -⟩ := X1.er.rt 0 (by decide)
       replace y0 : w5.cell? ⟨tB, tO, none⟩ = some (.int .i64 0) := y0
       replace y1 : w5.cell? ⟨tB, tO + 1, none⟩ = some (.slice na 1 nc) := y1
       replace hrn : RdN w5 na [lf5] := hrn
       have tok1 : True := trivial)
    | (go_at_call 11; have _v := tok1; clear tok1; refine (hC1 w5 (Keep.refl _)).mono ?_; rintro e w6 ⟨rfl, k6⟩
       obtain ⟨b0', b1', b2', b3', b4'⟩ := cells5 (k6.at q2))
    | (go_at_call 12; refine (hV1 w6 k6).mono ?_; rintro e w7 ⟨rfl, k7⟩
       have k57 := k6.trans k7
       obtain ⟨d0, d1, d2, d3, d4⟩ := cells5 (k57.at h5)
       have tok3 : True := trivial)
    | (go_at_call 11; have _x := tok3; clear tok3; refine (hC3 w7 k57).mono ?_; rintro e w8 ⟨rfl, k8⟩
       have k58 := k57.trans k8
       obtain ⟨m0, m1, m2, m3, m4⟩ := cells5 (k58.at q2)
       have y0' := k58.cell y0
       have y1' := k58.cell y1
       have hL := Largest_any 0 na nc [lf5] w8 (by decide) (hrn.keep k58)
       rw [lg_small] at hL
       change Calls Tryd.prog 17 #[.agg #[.int .i64 0, .slice na 1 nc]] w8 _ at hL)
    | (go_at_call 17; refine hL.mono ?_; rintro e w9 ⟨rfl, -, k9⟩))
  go_ret
  exact ⟨rfl, (k1.trans (k2.trans (k3.trans K5))).trans (k58.trans k9)⟩
end Go.Proofs.YtmkanofeencgpaaDoor
