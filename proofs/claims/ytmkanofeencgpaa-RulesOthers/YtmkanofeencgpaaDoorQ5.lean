import Derived.Test.YtmkanofeencgpaaDoorQ3
set_option linter.unusedVariables false
set_option linter.unusedSimpArgs false
namespace Go.Proofs.YtmkanofeencgpaaDoor
open Go.RowKit Go.Shelf
set_option maxRecDepth 100000 in
set_option maxHeartbeats 8000000 in
theorem rnode_2 (n : Nd) (ca : Option Addr) (cap : Nat) (F M : Int) (w : World) (h : n.kd = 2) (ht : n.th < 18446744073709551616) :
    Calls Tryd.prog 52 #[.agg (nvs n ca cap), .int .i64 F, .int .i64 M] w fun e w' => e = .returned (.int .i64 (ndR n F M)) ∧ Keep w w' := by
  have hT : nvs n ca cap = #[.int .u8 n.kd, .int .i64 n.vl, .int .i64 n.ft, .float .f64 n.th, .slice ca n.cs.length cap, .int .u8 n.ms, .int .i64 n.lf, .int .i64 n.rt] := rfl
  obtain ⟨ln, hln⟩ : ∃ ln, n.cs.length = ln := ⟨_, rfl⟩
  rw [hln] at hT
  rw [hT]
  obtain ⟨w1, hw1, k1, t1, s1⟩ := boxed w #[.int .u8 n.kd, .int .i64 n.vl, .int .i64 n.ft, .float .f64 n.th, .slice ca ln cap, .int .u8 n.ms, .int .i64 n.lf, .int .i64 n.rt] 77
  clear hT
  obtain ⟨c0, c1, c2, c3, c4, c5, c6, c7⟩ := cells8 t1
  have fb := f64b n.th
  have e1 : ((n.kd : Int) == 1) = false := by rw [beq_eq_false_iff_ne]; omega
  have e2 : ((n.kd : Int) == 2) = true := by rw [beq_iff_eq]; omega
  have e3 : ((n.kd : Int) == 3) = false := by rw [beq_eq_false_iff_ne]; omega
  have hbn := andnot n.th ht
  have hnn : nanB n.th = decide (9218868437227405312 < n.th % 9223372036854775808) := nanB_eq n.th
  generalize n.th % 9223372036854775808 = y at hbn hnn
  have KP := k1
  by_cases a1 : n.vl ≠ 0
  · have ea1 : (n.vl != 0) = true := by rw [bne, beq_eq_false_iff_ne.2 (by omega)]; rfl
    have HX : Hid (ndR n F M = 14) := by unfold Hid; rw [nd2_eq n F M h, hnn, hln]; (repeat' split) <;> first | rfl | (exfalso; simp_all; done) | (exfalso; simp_all; omega) | (exfalso; omega)
    replace hln : Hid _ := hln
    clear a1 h
    go_enter Tryd.func52, Tryd.ntmps52
    go_wp2_with (first | rw [hw1])
    go_ret
    exact ⟨by rw [HX.out]; rfl, KP⟩
  · have ea1 : (n.vl != 0) = false := by rw [bne, beq_iff_eq.2 (by omega)]; rfl
    by_cases a2 : 0 < ln
    · have ea2 : decide (0 < ln) = true := decide_eq_true (by omega)
      have HX : Hid (ndR n F M = 14) := by unfold Hid; rw [nd2_eq n F M h, hnn, hln]; (repeat' split) <;> first | rfl | (exfalso; simp_all; done) | (exfalso; simp_all; omega) | (exfalso; omega)
      replace hln : Hid _ := hln
      clear a1 a2 h
      go_enter Tryd.func52, Tryd.ntmps52
      go_wp2_with (first | rw [hw1])
      go_ret
      exact ⟨by rw [HX.out]; rfl, KP⟩
    · have ea2 : decide (0 < ln) = false := decide_eq_false (by omega)
      by_cases a3 : n.ft < 0
      · have ea3 : decide (n.ft < 0) = true := decide_eq_true (by omega)
        have HX : Hid (ndR n F M = 15) := by unfold Hid; rw [nd2_eq n F M h, hnn, hln]; (repeat' split) <;> first | rfl | (exfalso; simp_all; done) | (exfalso; simp_all; omega) | (exfalso; omega)
        replace hln : Hid _ := hln
        clear a1 a2 a3 h
        go_enter Tryd.func52, Tryd.ntmps52
        go_wp2_with (first | rw [hw1])
        go_ret
        exact ⟨by rw [HX.out]; rfl, KP⟩
      · have ea3 : decide (n.ft < 0) = false := decide_eq_false (by omega)
        by_cases a4 : F ≤ n.ft
        · have ea4 : decide (F ≤ n.ft) = true := decide_eq_true (by omega)
          have HX : Hid (ndR n F M = 15) := by unfold Hid; rw [nd2_eq n F M h, hnn, hln]; (repeat' split) <;> first | rfl | (exfalso; simp_all; done) | (exfalso; simp_all; omega) | (exfalso; omega)
          replace hln : Hid _ := hln
          clear a1 a2 a3 a4 h
          go_enter Tryd.func52, Tryd.ntmps52
          go_wp2_with (first | rw [hw1])
          go_ret
          exact ⟨by rw [HX.out]; rfl, KP⟩
        · have ea4 : decide (F ≤ n.ft) = false := decide_eq_false (by omega)
          by_cases a5 : 9218868437227405312 < y
          · have ea5 : decide ((9218868437227405312 : Int) < (y : Int)) = true := decide_eq_true (by omega)
            have HX : Hid (ndR n F M = 16) := by unfold Hid; rw [nd2_eq n F M h, hnn, hln]; (repeat' split) <;> first | rfl | (exfalso; simp_all; done) | (exfalso; simp_all; omega) | (exfalso; omega)
            replace hln : Hid _ := hln
            clear a1 a2 a3 a4 a5 h
            go_enter Tryd.func52, Tryd.ntmps52
            go_wp2_with (first | rw [hw1])
            go_ret
            exact ⟨by rw [HX.out]; rfl, KP⟩
          · have ea5 : decide ((9218868437227405312 : Int) < (y : Int)) = false := decide_eq_false (by omega)
            by_cases m1 : n.ms = 1
            · have em1 : ((n.ms : Int) != 1) = false := by rw [bne, beq_iff_eq.2 (by omega)]; rfl
              by_cases a7 : n.lf < 1
              · have ea7 : decide (n.lf < 1) = true := decide_eq_true (by omega)
                have HX : Hid (ndR n F M = 19) := by unfold Hid; rw [nd2_eq n F M h, hnn, hln]; (repeat' split) <;> first | rfl | (exfalso; simp_all; done) | (exfalso; simp_all; omega) | (exfalso; omega)
                replace hln : Hid _ := hln
                clear a1 a2 a3 a4 a5 m1 a7 h
                go_enter Tryd.func52, Tryd.ntmps52
                go_wp2_with (first | rw [hw1])
                go_ret
                exact ⟨by rw [HX.out]; rfl, KP⟩
              · have ea7 : decide (n.lf < 1) = false := decide_eq_false (by omega)
                by_cases a8 : M ≤ n.lf
                · have ea8 : decide (M ≤ n.lf) = true := decide_eq_true (by omega)
                  have HX : Hid (ndR n F M = 19) := by unfold Hid; rw [nd2_eq n F M h, hnn, hln]; (repeat' split) <;> first | rfl | (exfalso; simp_all; done) | (exfalso; simp_all; omega) | (exfalso; omega)
                  replace hln : Hid _ := hln
                  clear a1 a2 a3 a4 a5 m1 a7 a8 h
                  go_enter Tryd.func52, Tryd.ntmps52
                  go_wp2_with (first | rw [hw1])
                  go_ret
                  exact ⟨by rw [HX.out]; rfl, KP⟩
                · have ea8 : decide (M ≤ n.lf) = false := decide_eq_false (by omega)
                  by_cases a9 : n.rt < 1
                  · have ea9 : decide (n.rt < 1) = true := decide_eq_true (by omega)
                    have HX : Hid (ndR n F M = 19) := by unfold Hid; rw [nd2_eq n F M h, hnn, hln]; (repeat' split) <;> first | rfl | (exfalso; simp_all; done) | (exfalso; simp_all; omega) | (exfalso; omega)
                    replace hln : Hid _ := hln
                    clear a1 a2 a3 a4 a5 m1 a7 a8 a9 h
                    go_enter Tryd.func52, Tryd.ntmps52
                    go_wp2_with (first | rw [hw1])
                    go_ret
                    exact ⟨by rw [HX.out]; rfl, KP⟩
                  · have ea9 : decide (n.rt < 1) = false := decide_eq_false (by omega)
                    by_cases a10 : M ≤ n.rt
                    · have ea10 : decide (M ≤ n.rt) = true := decide_eq_true (by omega)
                      have HX : Hid (ndR n F M = 19) := by unfold Hid; rw [nd2_eq n F M h, hnn, hln]; (repeat' split) <;> first | rfl | (exfalso; simp_all; done) | (exfalso; simp_all; omega) | (exfalso; omega)
                      replace hln : Hid _ := hln
                      clear a1 a2 a3 a4 a5 m1 a7 a8 a9 a10 h
                      go_enter Tryd.func52, Tryd.ntmps52
                      go_wp2_with (first | rw [hw1])
                      go_ret
                      exact ⟨by rw [HX.out]; rfl, KP⟩
                    · have ea10 : decide (M ≤ n.rt) = false := decide_eq_false (by omega)
                      have HX : Hid (ndR n F M = 0) := by unfold Hid; rw [nd2_eq n F M h, hnn, hln]; (repeat' split) <;> first | rfl | (exfalso; simp_all; done) | (exfalso; simp_all; omega) | (exfalso; omega)
                      replace hln : Hid _ := hln
                      clear a1 a2 a3 a4 a5 m1 a7 a8 a9 a10 h
                      go_enter Tryd.func52, Tryd.ntmps52
                      go_wp2_with (first | rw [hw1])
                      go_ret
                      exact ⟨by rw [HX.out]; rfl, KP⟩
            · have em1 : ((n.ms : Int) != 1) = true := by rw [bne, beq_eq_false_iff_ne.2 (by omega)]; rfl
              by_cases m2 : n.ms = 2
              · have em2 : ((n.ms : Int) != 2) = false := by rw [bne, beq_iff_eq.2 (by omega)]; rfl
                by_cases a7 : n.lf < 1
                · have ea7 : decide (n.lf < 1) = true := decide_eq_true (by omega)
                  have HX : Hid (ndR n F M = 19) := by unfold Hid; rw [nd2_eq n F M h, hnn, hln]; (repeat' split) <;> first | rfl | (exfalso; simp_all; done) | (exfalso; simp_all; omega) | (exfalso; omega)
                  replace hln : Hid _ := hln
                  clear a1 a2 a3 a4 a5 m1 m2 a7 h
                  go_enter Tryd.func52, Tryd.ntmps52
                  go_wp2_with (first | rw [hw1])
                  go_ret
                  exact ⟨by rw [HX.out]; rfl, KP⟩
                · have ea7 : decide (n.lf < 1) = false := decide_eq_false (by omega)
                  by_cases a8 : M ≤ n.lf
                  · have ea8 : decide (M ≤ n.lf) = true := decide_eq_true (by omega)
                    have HX : Hid (ndR n F M = 19) := by unfold Hid; rw [nd2_eq n F M h, hnn, hln]; (repeat' split) <;> first | rfl | (exfalso; simp_all; done) | (exfalso; simp_all; omega) | (exfalso; omega)
                    replace hln : Hid _ := hln
                    clear a1 a2 a3 a4 a5 m1 m2 a7 a8 h
                    go_enter Tryd.func52, Tryd.ntmps52
                    go_wp2_with (first | rw [hw1])
                    go_ret
                    exact ⟨by rw [HX.out]; rfl, KP⟩
                  · have ea8 : decide (M ≤ n.lf) = false := decide_eq_false (by omega)
                    by_cases a9 : n.rt < 1
                    · have ea9 : decide (n.rt < 1) = true := decide_eq_true (by omega)
                      have HX : Hid (ndR n F M = 19) := by unfold Hid; rw [nd2_eq n F M h, hnn, hln]; (repeat' split) <;> first | rfl | (exfalso; simp_all; done) | (exfalso; simp_all; omega) | (exfalso; omega)
                      replace hln : Hid _ := hln
                      clear a1 a2 a3 a4 a5 m1 m2 a7 a8 a9 h
                      go_enter Tryd.func52, Tryd.ntmps52
                      go_wp2_with (first | rw [hw1])
                      go_ret
                      exact ⟨by rw [HX.out]; rfl, KP⟩
                    · have ea9 : decide (n.rt < 1) = false := decide_eq_false (by omega)
                      by_cases a10 : M ≤ n.rt
                      · have ea10 : decide (M ≤ n.rt) = true := decide_eq_true (by omega)
                        have HX : Hid (ndR n F M = 19) := by unfold Hid; rw [nd2_eq n F M h, hnn, hln]; (repeat' split) <;> first | rfl | (exfalso; simp_all; done) | (exfalso; simp_all; omega) | (exfalso; omega)
                        replace hln : Hid _ := hln
                        clear a1 a2 a3 a4 a5 m1 m2 a7 a8 a9 a10 h
                        go_enter Tryd.func52, Tryd.ntmps52
                        go_wp2_with (first | rw [hw1])
                        go_ret
                        exact ⟨by rw [HX.out]; rfl, KP⟩
                      · have ea10 : decide (M ≤ n.rt) = false := decide_eq_false (by omega)
                        have HX : Hid (ndR n F M = 0) := by unfold Hid; rw [nd2_eq n F M h, hnn, hln]; (repeat' split) <;> first | rfl | (exfalso; simp_all; done) | (exfalso; simp_all; omega) | (exfalso; omega)
                        replace hln : Hid _ := hln
                        clear a1 a2 a3 a4 a5 m1 m2 a7 a8 a9 a10 h
                        go_enter Tryd.func52, Tryd.ntmps52
                        go_wp2_with (first | rw [hw1])
                        go_ret
                        exact ⟨by rw [HX.out]; rfl, KP⟩
              · have em2 : ((n.ms : Int) != 2) = true := by rw [bne, beq_eq_false_iff_ne.2 (by omega)]; rfl
                have HX : Hid (ndR n F M = 18) := by unfold Hid; rw [nd2_eq n F M h, hnn, hln]; (repeat' split) <;> first | rfl | (exfalso; simp_all; done) | (exfalso; simp_all; omega) | (exfalso; omega)
                replace hln : Hid _ := hln
                clear a1 a2 a3 a4 a5 m1 m2 h
                go_enter Tryd.func52, Tryd.ntmps52
                go_wp2_with (first | rw [hw1])
                go_ret
                exact ⟨by rw [HX.out]; rfl, KP⟩
end Go.Proofs.YtmkanofeencgpaaDoor
