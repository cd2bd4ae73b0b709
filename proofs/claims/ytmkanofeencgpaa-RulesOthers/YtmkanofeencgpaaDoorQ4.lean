import Derived.Test.YtmkanofeencgpaaDoorQ3
set_option linter.unusedVariables false
set_option linter.unusedSimpArgs false
namespace Go.Proofs.YtmkanofeencgpaaDoor
open Go.RowKit Go.Shelf
set_option maxRecDepth 100000 in
set_option maxHeartbeats 8000000 in
theorem rnode_1 (n : Nd) (ca : Option Addr) (cap : Nat) (F M : Int) (w : World) (h : n.kd = 1) :
    Calls Tryd.prog 52 #[.agg (nvs n ca cap), .int .i64 F, .int .i64 M] w fun e w' => e = .returned (.int .i64 (ndR n F M)) ∧ Keep w w' := by
  have hT : nvs n ca cap = #[.int .u8 n.kd, .int .i64 n.vl, .int .i64 n.ft, .float .f64 n.th, .slice ca n.cs.length cap, .int .u8 n.ms, .int .i64 n.lf, .int .i64 n.rt] := rfl
  obtain ⟨ln, hln⟩ : ∃ ln, n.cs.length = ln := ⟨_, rfl⟩
  rw [hln] at hT
  rw [hT]
  obtain ⟨w1, hw1, k1, t1, s1⟩ := boxed w #[.int .u8 n.kd, .int .i64 n.vl, .int .i64 n.ft, .float .f64 n.th, .slice ca ln cap, .int .u8 n.ms, .int .i64 n.lf, .int .i64 n.rt] 77
  clear hT
  obtain ⟨c0, c1, c2, c3, c4, c5, c6, c7⟩ := cells8 t1
  have fb := f64b n.th
  have e1 : ((n.kd : Int) == 1) = true := by rw [beq_iff_eq]; omega
  have e2 : ((n.kd : Int) == 2) = false := by rw [beq_eq_false_iff_ne]; omega
  have e3 : ((n.kd : Int) == 3) = false := by rw [beq_eq_false_iff_ne]; omega
  have KP := k1
  by_cases a1 : n.ft ≠ 0
  · have ea1 : (n.ft != 0) = true := by rw [bne, beq_eq_false_iff_ne.2 (by omega)]; rfl
    have HX : Hid (ndR n F M = 14) := by unfold Hid; rw [nd1_eq n F M h, hln]; (repeat' split) <;> first | rfl | (exfalso; simp_all; done) | (exfalso; simp_all; omega) | (exfalso; omega)
    replace hln : Hid _ := hln
    clear a1 h
    go_enter Tryd.func52, Tryd.ntmps52
    go_wp2_with (first | rw [hw1])
    go_ret
    exact ⟨by rw [HX.out]; rfl, KP⟩
  · have ea1 : (n.ft != 0) = false := by rw [bne, beq_iff_eq.2 (by omega)]; rfl
    by_cases a2 : n.th ≠ 0
    · have ea2 : ((n.th : Int) != 0) = true := by rw [bne, beq_eq_false_iff_ne.2 (by omega)]; rfl
      have HX : Hid (ndR n F M = 14) := by unfold Hid; rw [nd1_eq n F M h, hln]; (repeat' split) <;> first | rfl | (exfalso; simp_all; done) | (exfalso; simp_all; omega) | (exfalso; omega)
      replace hln : Hid _ := hln
      clear a1 a2 h
      go_enter Tryd.func52, Tryd.ntmps52
      go_wp2_with (first | rw [hw1])
      go_ret
      exact ⟨by rw [HX.out]; rfl, KP⟩
    · have ea2 : ((n.th : Int) != 0) = false := by rw [bne, beq_iff_eq.2 (by omega)]; rfl
      by_cases a3 : 0 < ln
      · have ea3 : decide (0 < ln) = true := decide_eq_true (by omega)
        have HX : Hid (ndR n F M = 14) := by unfold Hid; rw [nd1_eq n F M h, hln]; (repeat' split) <;> first | rfl | (exfalso; simp_all; done) | (exfalso; simp_all; omega) | (exfalso; omega)
        replace hln : Hid _ := hln
        clear a1 a2 a3 h
        go_enter Tryd.func52, Tryd.ntmps52
        go_wp2_with (first | rw [hw1])
        go_ret
        exact ⟨by rw [HX.out]; rfl, KP⟩
      · have ea3 : decide (0 < ln) = false := decide_eq_false (by omega)
        by_cases a4 : n.ms ≠ 0
        · have ea4 : ((n.ms : Int) != 0) = true := by rw [bne, beq_eq_false_iff_ne.2 (by omega)]; rfl
          have HX : Hid (ndR n F M = 14) := by unfold Hid; rw [nd1_eq n F M h, hln]; (repeat' split) <;> first | rfl | (exfalso; simp_all; done) | (exfalso; simp_all; omega) | (exfalso; omega)
          replace hln : Hid _ := hln
          clear a1 a2 a3 a4 h
          go_enter Tryd.func52, Tryd.ntmps52
          go_wp2_with (first | rw [hw1])
          go_ret
          exact ⟨by rw [HX.out]; rfl, KP⟩
        · have ea4 : ((n.ms : Int) != 0) = false := by rw [bne, beq_iff_eq.2 (by omega)]; rfl
          by_cases a5 : n.lf ≠ 0
          · have ea5 : (n.lf != 0) = true := by rw [bne, beq_eq_false_iff_ne.2 (by omega)]; rfl
            have HX : Hid (ndR n F M = 14) := by unfold Hid; rw [nd1_eq n F M h, hln]; (repeat' split) <;> first | rfl | (exfalso; simp_all; done) | (exfalso; simp_all; omega) | (exfalso; omega)
            replace hln : Hid _ := hln
            clear a1 a2 a3 a4 a5 h
            go_enter Tryd.func52, Tryd.ntmps52
            go_wp2_with (first | rw [hw1])
            go_ret
            exact ⟨by rw [HX.out]; rfl, KP⟩
          · have ea5 : (n.lf != 0) = false := by rw [bne, beq_iff_eq.2 (by omega)]; rfl
            by_cases a6 : n.rt ≠ 0
            · have ea6 : (n.rt != 0) = true := by rw [bne, beq_eq_false_iff_ne.2 (by omega)]; rfl
              have HX : Hid (ndR n F M = 14) := by unfold Hid; rw [nd1_eq n F M h, hln]; (repeat' split) <;> first | rfl | (exfalso; simp_all; done) | (exfalso; simp_all; omega) | (exfalso; omega)
              replace hln : Hid _ := hln
              clear a1 a2 a3 a4 a5 a6 h
              go_enter Tryd.func52, Tryd.ntmps52
              go_wp2_with (first | rw [hw1])
              go_ret
              exact ⟨by rw [HX.out]; rfl, KP⟩
            · have ea6 : (n.rt != 0) = false := by rw [bne, beq_iff_eq.2 (by omega)]; rfl
              have HX : Hid (ndR n F M = 0) := by unfold Hid; rw [nd1_eq n F M h, hln]; (repeat' split) <;> first | rfl | (exfalso; simp_all; done) | (exfalso; simp_all; omega) | (exfalso; omega)
              replace hln : Hid _ := hln
              clear a1 a2 a3 a4 a5 a6 h
              go_enter Tryd.func52, Tryd.ntmps52
              go_wp2_with (first | rw [hw1])
              go_ret
              exact ⟨by rw [HX.out]; rfl, KP⟩
end Go.Proofs.YtmkanofeencgpaaDoor
