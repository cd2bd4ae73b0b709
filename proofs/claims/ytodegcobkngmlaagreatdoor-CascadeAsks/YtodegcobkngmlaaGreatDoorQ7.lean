import Derived.Test.YtodegcobkngmlaaGreatDoorProg
import Derived.Test.YtodegcobkngmlaaGreatDoorQ3
import Derived.WalkKit
import Derived.WalkSpells
import Derived.WalkLawsBesides
import Derived.Deep.Draws
import Derived.Deep.QuietTactic
import Derived.BigQuiet
import Derived.Laws.Externs
import Derived.Laws.CopyOwn
import Derived.Shelf.Abstract
import Derived.Deep.RegionLaw
import Derived.BigRegion
import Derived.Deep.RegionHeld3
import Derived.RangeFuncBox
import Derived.RangeFuncLeaves
import Derived.RangeFuncCalls
import Derived.RangeFuncRecord
import Derived.Below
import Derived.OwnWalkIn
import Derived.TacticsInMore
import Derived.LoopNIn
import Derived.LoopIn
import Derived.Sort.LoopGhostIn
import Derived.Deep.RegionWith
import Derived.Stop.RegionWithIn
import Derived.Laws.MathBits
import Derived.Maps.OwnSet
import Derived.StringKeys
import Derived.RegionTactic
import Derived.Orders
import Derived.OrdersIn
import Derived.RegionIn
import Ieee.Arith
set_option linter.unusedVariables false
set_option linter.unusedSimpArgs false
namespace Go.Proofs.YtodegcobkngmlaaGreatDoor
open Go.RowKit Go.Shelf
set_option maxRecDepth 100000 in
set_option maxHeartbeats 8000000 in
theorem rnode_1 (n : Nd) (ca : Option Addr) (cap : Nat) (F M : Int) (w : World) (h : n.kd = 1) :
    Calls Tryz.prog 64 #[.agg (nvs n ca cap), .int .i64 F, .int .i64 M] w fun e w' => e = .returned (.int .i64 (ndR n F M)) ∧ Keep w w' := by
  have hT : nvs n ca cap = #[.int .u8 n.kd, .int .i64 n.vl, .int .i64 n.ft, .float .f64 n.th, .slice ca n.cs.length cap, .int .u8 n.ms, .int .i64 n.lf, .int .i64 n.rt] := rfl
  obtain ⟨ln, hln⟩ : ∃ ln, n.cs.length = ln := ⟨_, rfl⟩
  rw [hln] at hT
  rw [hT]
  obtain ⟨w1, hw1, k1, t1, s1⟩ := boxed w #[.int .u8 n.kd, .int .i64 n.vl, .int .i64 n.ft, .float .f64 n.th, .slice ca ln cap, .int .u8 n.ms, .int .i64 n.lf, .int .i64 n.rt] 71
  clear hT
  obtain ⟨c0, c1, c2, c3, c4, c5, c6, c7⟩ := cells8 t1
  have fb := f64b n.th
  have e1 : ((n.kd : Int) == 1) = true := by rw [beq_iff_eq]; omega
  have e2 : ((n.kd : Int) == 2) = false := by rw [beq_eq_false_iff_ne]; omega
  have e3 : ((n.kd : Int) == 3) = false := by rw [beq_eq_false_iff_ne]; omega
  have KP := k1
  by_cases a1 : n.ft ≠ 0
  · have ea1 : (n.ft != 0) = true := by rw [bne, beq_eq_false_iff_ne.2 (by omega)]; rfl
    have HX : Hid (ndR n F M = 14) := by unfold Hid; rw [nd1_eq n F M h, hln]; (repeat' split) <;> first | rfl | (exfalso; simp_all; done) | (exfalso; simp_all; omega) | (exfalso; omega)
    replace hln : Hid _ := hln
    clear a1 h
    go_enter Tryz.func64, Tryz.ntmps64
    go_wp2_with (first | rw [hw1])
    go_ret
    exact ⟨by rw [HX.out]; rfl, KP⟩
  · have ea1 : (n.ft != 0) = false := by rw [bne, beq_iff_eq.2 (by omega)]; rfl
    by_cases a2 : n.th ≠ 0
    · have ea2 : ((n.th : Int) != 0) = true := by rw [bne, beq_eq_false_iff_ne.2 (by omega)]; rfl
      have HX : Hid (ndR n F M = 14) := by unfold Hid; rw [nd1_eq n F M h, hln]; (repeat' split) <;> first | rfl | (exfalso; simp_all; done) | (exfalso; simp_all; omega) | (exfalso; omega)
      replace hln : Hid _ := hln
      clear a1 a2 h
      go_enter Tryz.func64, Tryz.ntmps64
      go_wp2_with (first | rw [hw1])
      go_ret
      exact ⟨by rw [HX.out]; rfl, KP⟩
    · have ea2 : ((n.th : Int) != 0) = false := by rw [bne, beq_iff_eq.2 (by omega)]; rfl
      by_cases a3 : 0 < ln
      · have ea3 : decide (0 < ln) = true := decide_eq_true (by omega)
        have HX : Hid (ndR n F M = 14) := by unfold Hid; rw [nd1_eq n F M h, hln]; (repeat' split) <;> first | rfl | (exfalso; simp_all; done) | (exfalso; simp_all; omega) | (exfalso; omega)
        replace hln : Hid _ := hln
        clear a1 a2 a3 h
        go_enter Tryz.func64, Tryz.ntmps64
        go_wp2_with (first | rw [hw1])
        go_ret
        exact ⟨by rw [HX.out]; rfl, KP⟩
      · have ea3 : decide (0 < ln) = false := decide_eq_false (by omega)
        by_cases a4 : n.ms ≠ 0
        · have ea4 : ((n.ms : Int) != 0) = true := by rw [bne, beq_eq_false_iff_ne.2 (by omega)]; rfl
          have HX : Hid (ndR n F M = 14) := by unfold Hid; rw [nd1_eq n F M h, hln]; (repeat' split) <;> first | rfl | (exfalso; simp_all; done) | (exfalso; simp_all; omega) | (exfalso; omega)
          replace hln : Hid _ := hln
          clear a1 a2 a3 a4 h
          go_enter Tryz.func64, Tryz.ntmps64
          go_wp2_with (first | rw [hw1])
          go_ret
          exact ⟨by rw [HX.out]; rfl, KP⟩
        · have ea4 : ((n.ms : Int) != 0) = false := by rw [bne, beq_iff_eq.2 (by omega)]; rfl
          by_cases a5 : n.lf ≠ 0
          · have ea5 : (n.lf != 0) = true := by rw [bne, beq_eq_false_iff_ne.2 (by omega)]; rfl
            have HX : Hid (ndR n F M = 14) := by unfold Hid; rw [nd1_eq n F M h, hln]; (repeat' split) <;> first | rfl | (exfalso; simp_all; done) | (exfalso; simp_all; omega) | (exfalso; omega)
            replace hln : Hid _ := hln
            clear a1 a2 a3 a4 a5 h
            go_enter Tryz.func64, Tryz.ntmps64
            go_wp2_with (first | rw [hw1])
            go_ret
            exact ⟨by rw [HX.out]; rfl, KP⟩
          · have ea5 : (n.lf != 0) = false := by rw [bne, beq_iff_eq.2 (by omega)]; rfl
            by_cases a6 : n.rt ≠ 0
            · have ea6 : (n.rt != 0) = true := by rw [bne, beq_eq_false_iff_ne.2 (by omega)]; rfl
              have HX : Hid (ndR n F M = 14) := by unfold Hid; rw [nd1_eq n F M h, hln]; (repeat' split) <;> first | rfl | (exfalso; simp_all; done) | (exfalso; simp_all; omega) | (exfalso; omega)
              replace hln : Hid _ := hln
              clear a1 a2 a3 a4 a5 a6 h
              go_enter Tryz.func64, Tryz.ntmps64
              go_wp2_with (first | rw [hw1])
              go_ret
              exact ⟨by rw [HX.out]; rfl, KP⟩
            · have ea6 : (n.rt != 0) = false := by rw [bne, beq_iff_eq.2 (by omega)]; rfl
              have HX : Hid (ndR n F M = 0) := by unfold Hid; rw [nd1_eq n F M h, hln]; (repeat' split) <;> first | rfl | (exfalso; simp_all; done) | (exfalso; simp_all; omega) | (exfalso; omega)
              replace hln : Hid _ := hln
              clear a1 a2 a3 a4 a5 a6 h
              go_enter Tryz.func64, Tryz.ntmps64
              go_wp2_with (first | rw [hw1])
              go_ret
              exact ⟨by rw [HX.out]; rfl, KP⟩
end Go.Proofs.YtodegcobkngmlaaGreatDoor
set_option linter.unusedVariables false
set_option linter.unusedSimpArgs false
namespace Go.Proofs.YtodegcobkngmlaaGreatDoor
open Go.RowKit Go.Shelf
set_option maxRecDepth 100000 in
set_option maxHeartbeats 8000000 in
theorem rnode_2 (n : Nd) (ca : Option Addr) (cap : Nat) (F M : Int) (w : World) (h : n.kd = 2) (ht : n.th < 18446744073709551616) :
    Calls Tryz.prog 64 #[.agg (nvs n ca cap), .int .i64 F, .int .i64 M] w fun e w' => e = .returned (.int .i64 (ndR n F M)) ∧ Keep w w' := by
  have hT : nvs n ca cap = #[.int .u8 n.kd, .int .i64 n.vl, .int .i64 n.ft, .float .f64 n.th, .slice ca n.cs.length cap, .int .u8 n.ms, .int .i64 n.lf, .int .i64 n.rt] := rfl
  obtain ⟨ln, hln⟩ : ∃ ln, n.cs.length = ln := ⟨_, rfl⟩
  rw [hln] at hT
  rw [hT]
  obtain ⟨w1, hw1, k1, t1, s1⟩ := boxed w #[.int .u8 n.kd, .int .i64 n.vl, .int .i64 n.ft, .float .f64 n.th, .slice ca ln cap, .int .u8 n.ms, .int .i64 n.lf, .int .i64 n.rt] 71
  clear hT
  obtain ⟨c0, c1, c2, c3, c4, c5, c6, c7⟩ := cells8 t1
  have fb := f64b n.th
  have e1 : ((n.kd : Int) == 1) = false := by rw [beq_eq_false_iff_ne]; omega
  have e2 : ((n.kd : Int) == 2) = true := by rw [beq_iff_eq]; omega
  have e3 : ((n.kd : Int) == 3) = false := by rw [beq_eq_false_iff_ne]; omega
  have hbn := andnot n.th ht
  have hnn : nanB n.th = decide (9218868437227405312 < n.th % 9223372036854775808) := nanB_eq n.th
  generalize n.th % 9223372036854775808 = y at hbn hnn
  have KP := k1
  by_cases a1 : n.vl ≠ 0
  · have ea1 : (n.vl != 0) = true := by rw [bne, beq_eq_false_iff_ne.2 (by omega)]; rfl
    have HX : Hid (ndR n F M = 14) := by unfold Hid; rw [nd2_eq n F M h, hnn, hln]; (repeat' split) <;> first | rfl | (exfalso; simp_all; done) | (exfalso; simp_all; omega) | (exfalso; omega)
    replace hln : Hid _ := hln
    clear a1 h
    go_enter Tryz.func64, Tryz.ntmps64
    go_wp2_with (first | rw [hw1])
    go_ret
    exact ⟨by rw [HX.out]; rfl, KP⟩
  · have ea1 : (n.vl != 0) = false := by rw [bne, beq_iff_eq.2 (by omega)]; rfl
    by_cases a2 : 0 < ln
    · have ea2 : decide (0 < ln) = true := decide_eq_true (by omega)
      have HX : Hid (ndR n F M = 14) := by unfold Hid; rw [nd2_eq n F M h, hnn, hln]; (repeat' split) <;> first | rfl | (exfalso; simp_all; done) | (exfalso; simp_all; omega) | (exfalso; omega)
      replace hln : Hid _ := hln
      clear a1 a2 h
      go_enter Tryz.func64, Tryz.ntmps64
      go_wp2_with (first | rw [hw1])
      go_ret
      exact ⟨by rw [HX.out]; rfl, KP⟩
    · have ea2 : decide (0 < ln) = false := decide_eq_false (by omega)
      by_cases a3 : n.ft < 0
      · have ea3 : decide (n.ft < 0) = true := decide_eq_true (by omega)
        have HX : Hid (ndR n F M = 15) := by unfold Hid; rw [nd2_eq n F M h, hnn, hln]; (repeat' split) <;> first | rfl | (exfalso; simp_all; done) | (exfalso; simp_all; omega) | (exfalso; omega)
        replace hln : Hid _ := hln
        clear a1 a2 a3 h
        go_enter Tryz.func64, Tryz.ntmps64
        go_wp2_with (first | rw [hw1])
        go_ret
        exact ⟨by rw [HX.out]; rfl, KP⟩
      · have ea3 : decide (n.ft < 0) = false := decide_eq_false (by omega)
        by_cases a4 : F ≤ n.ft
        · have ea4 : decide (F ≤ n.ft) = true := decide_eq_true (by omega)
          have HX : Hid (ndR n F M = 15) := by unfold Hid; rw [nd2_eq n F M h, hnn, hln]; (repeat' split) <;> first | rfl | (exfalso; simp_all; done) | (exfalso; simp_all; omega) | (exfalso; omega)
          replace hln : Hid _ := hln
          clear a1 a2 a3 a4 h
          go_enter Tryz.func64, Tryz.ntmps64
          go_wp2_with (first | rw [hw1])
          go_ret
          exact ⟨by rw [HX.out]; rfl, KP⟩
        · have ea4 : decide (F ≤ n.ft) = false := decide_eq_false (by omega)
          by_cases a5 : 9218868437227405312 < y
          · have ea5 : decide ((9218868437227405312 : Int) < (y : Int)) = true := decide_eq_true (by omega)
            have HX : Hid (ndR n F M = 16) := by unfold Hid; rw [nd2_eq n F M h, hnn, hln]; (repeat' split) <;> first | rfl | (exfalso; simp_all; done) | (exfalso; simp_all; omega) | (exfalso; omega)
            replace hln : Hid _ := hln
            clear a1 a2 a3 a4 a5 h
            go_enter Tryz.func64, Tryz.ntmps64
            go_wp2_with (first | rw [hw1])
            go_ret
            exact ⟨by rw [HX.out]; rfl, KP⟩
          · have ea5 : decide ((9218868437227405312 : Int) < (y : Int)) = false := decide_eq_false (by omega)
            by_cases m1 : n.ms = 1
            · have em1 : ((n.ms : Int) != 1) = false := by rw [bne, beq_iff_eq.2 (by omega)]; rfl
              by_cases a7 : n.lf < 1
              · have ea7 : decide (n.lf < 1) = true := decide_eq_true (by omega)
                have HX : Hid (ndR n F M = 19) := by unfold Hid; rw [nd2_eq n F M h, hnn, hln]; (repeat' split) <;> first | rfl | (exfalso; simp_all; done) | (exfalso; simp_all; omega) | (exfalso; omega)
                replace hln : Hid _ := hln
                clear a1 a2 a3 a4 a5 m1 a7 h
                go_enter Tryz.func64, Tryz.ntmps64
                go_wp2_with (first | rw [hw1])
                go_ret
                exact ⟨by rw [HX.out]; rfl, KP⟩
              · have ea7 : decide (n.lf < 1) = false := decide_eq_false (by omega)
                by_cases a8 : M ≤ n.lf
                · have ea8 : decide (M ≤ n.lf) = true := decide_eq_true (by omega)
                  have HX : Hid (ndR n F M = 19) := by unfold Hid; rw [nd2_eq n F M h, hnn, hln]; (repeat' split) <;> first | rfl | (exfalso; simp_all; done) | (exfalso; simp_all; omega) | (exfalso; omega)
                  replace hln : Hid _ := hln
                  clear a1 a2 a3 a4 a5 m1 a7 a8 h
                  go_enter Tryz.func64, Tryz.ntmps64
                  go_wp2_with (first | rw [hw1])
                  go_ret
                  exact ⟨by rw [HX.out]; rfl, KP⟩
                · have ea8 : decide (M ≤ n.lf) = false := decide_eq_false (by omega)
                  by_cases a9 : n.rt < 1
                  · have ea9 : decide (n.rt < 1) = true := decide_eq_true (by omega)
                    have HX : Hid (ndR n F M = 19) := by unfold Hid; rw [nd2_eq n F M h, hnn, hln]; (repeat' split) <;> first | rfl | (exfalso; simp_all; done) | (exfalso; simp_all; omega) | (exfalso; omega)
                    replace hln : Hid _ := hln
                    clear a1 a2 a3 a4 a5 m1 a7 a8 a9 h
                    go_enter Tryz.func64, Tryz.ntmps64
                    go_wp2_with (first | rw [hw1])
                    go_ret
                    exact ⟨by rw [HX.out]; rfl, KP⟩
                  · have ea9 : decide (n.rt < 1) = false := decide_eq_false (by omega)
                    by_cases a10 : M ≤ n.rt
                    · have ea10 : decide (M ≤ n.rt) = true := decide_eq_true (by omega)
                      have HX : Hid (ndR n F M = 19) := by unfold Hid; rw [nd2_eq n F M h, hnn, hln]; (repeat' split) <;> first | rfl | (exfalso; simp_all; done) | (exfalso; simp_all; omega) | (exfalso; omega)
                      replace hln : Hid _ := hln
                      clear a1 a2 a3 a4 a5 m1 a7 a8 a9 a10 h
                      go_enter Tryz.func64, Tryz.ntmps64
                      go_wp2_with (first | rw [hw1])
                      go_ret
                      exact ⟨by rw [HX.out]; rfl, KP⟩
                    · have ea10 : decide (M ≤ n.rt) = false := decide_eq_false (by omega)
                      have HX : Hid (ndR n F M = 0) := by unfold Hid; rw [nd2_eq n F M h, hnn, hln]; (repeat' split) <;> first | rfl | (exfalso; simp_all; done) | (exfalso; simp_all; omega) | (exfalso; omega)
                      replace hln : Hid _ := hln
                      clear a1 a2 a3 a4 a5 m1 a7 a8 a9 a10 h
                      go_enter Tryz.func64, Tryz.ntmps64
                      go_wp2_with (first | rw [hw1])
                      go_ret
                      exact ⟨by rw [HX.out]; rfl, KP⟩
            · have em1 : ((n.ms : Int) != 1) = true := by rw [bne, beq_eq_false_iff_ne.2 (by omega)]; rfl
              by_cases m2 : n.ms = 2
              · have em2 : ((n.ms : Int) != 2) = false := by rw [bne, beq_iff_eq.2 (by omega)]; rfl
                by_cases a7 : n.lf < 1
                · have ea7 : decide (n.lf < 1) = true := decide_eq_true (by omega)
                  have HX : Hid (ndR n F M = 19) := by unfold Hid; rw [nd2_eq n F M h, hnn, hln]; (repeat' split) <;> first | rfl | (exfalso; simp_all; done) | (exfalso; simp_all; omega) | (exfalso; omega)
                  replace hln : Hid _ := hln
                  clear a1 a2 a3 a4 a5 m1 m2 a7 h
                  go_enter Tryz.func64, Tryz.ntmps64
                  go_wp2_with (first | rw [hw1])
                  go_ret
                  exact ⟨by rw [HX.out]; rfl, KP⟩
                · have ea7 : decide (n.lf < 1) = false := decide_eq_false (by omega)
                  by_cases a8 : M ≤ n.lf
                  · have ea8 : decide (M ≤ n.lf) = true := decide_eq_true (by omega)
                    have HX : Hid (ndR n F M = 19) := by unfold Hid; rw [nd2_eq n F M h, hnn, hln]; (repeat' split) <;> first | rfl | (exfalso; simp_all; done) | (exfalso; simp_all; omega) | (exfalso; omega)
                    replace hln : Hid _ := hln
                    clear a1 a2 a3 a4 a5 m1 m2 a7 a8 h
                    go_enter Tryz.func64, Tryz.ntmps64
                    go_wp2_with (first | rw [hw1])
                    go_ret
                    exact ⟨by rw [HX.out]; rfl, KP⟩
                  · have ea8 : decide (M ≤ n.lf) = false := decide_eq_false (by omega)
                    by_cases a9 : n.rt < 1
                    · have ea9 : decide (n.rt < 1) = true := decide_eq_true (by omega)
                      have HX : Hid (ndR n F M = 19) := by unfold Hid; rw [nd2_eq n F M h, hnn, hln]; (repeat' split) <;> first | rfl | (exfalso; simp_all; done) | (exfalso; simp_all; omega) | (exfalso; omega)
                      replace hln : Hid _ := hln
                      clear a1 a2 a3 a4 a5 m1 m2 a7 a8 a9 h
                      go_enter Tryz.func64, Tryz.ntmps64
                      go_wp2_with (first | rw [hw1])
                      go_ret
                      exact ⟨by rw [HX.out]; rfl, KP⟩
                    · have ea9 : decide (n.rt < 1) = false := decide_eq_false (by omega)
                      by_cases a10 : M ≤ n.rt
                      · have ea10 : decide (M ≤ n.rt) = true := decide_eq_true (by omega)
                        have HX : Hid (ndR n F M = 19) := by unfold Hid; rw [nd2_eq n F M h, hnn, hln]; (repeat' split) <;> first | rfl | (exfalso; simp_all; done) | (exfalso; simp_all; omega) | (exfalso; omega)
                        replace hln : Hid _ := hln
                        clear a1 a2 a3 a4 a5 m1 m2 a7 a8 a9 a10 h
                        go_enter Tryz.func64, Tryz.ntmps64
                        go_wp2_with (first | rw [hw1])
                        go_ret
                        exact ⟨by rw [HX.out]; rfl, KP⟩
                      · have ea10 : decide (M ≤ n.rt) = false := decide_eq_false (by omega)
                        have HX : Hid (ndR n F M = 0) := by unfold Hid; rw [nd2_eq n F M h, hnn, hln]; (repeat' split) <;> first | rfl | (exfalso; simp_all; done) | (exfalso; simp_all; omega) | (exfalso; omega)
                        replace hln : Hid _ := hln
                        clear a1 a2 a3 a4 a5 m1 m2 a7 a8 a9 a10 h
                        go_enter Tryz.func64, Tryz.ntmps64
                        go_wp2_with (first | rw [hw1])
                        go_ret
                        exact ⟨by rw [HX.out]; rfl, KP⟩
              · have em2 : ((n.ms : Int) != 2) = true := by rw [bne, beq_eq_false_iff_ne.2 (by omega)]; rfl
                have HX : Hid (ndR n F M = 18) := by unfold Hid; rw [nd2_eq n F M h, hnn, hln]; (repeat' split) <;> first | rfl | (exfalso; simp_all; done) | (exfalso; simp_all; omega) | (exfalso; omega)
                replace hln : Hid _ := hln
                clear a1 a2 a3 a4 a5 m1 m2 h
                go_enter Tryz.func64, Tryz.ntmps64
                go_wp2_with (first | rw [hw1])
                go_ret
                exact ⟨by rw [HX.out]; rfl, KP⟩
end Go.Proofs.YtodegcobkngmlaaGreatDoor
set_option linter.unusedVariables false
set_option linter.unusedSimpArgs false
namespace Go.Proofs.YtodegcobkngmlaaGreatDoor
open Go.RowKit Go.Shelf
set_option maxRecDepth 100000 in
set_option maxHeartbeats 8000000 in
theorem rnode_3 (n : Nd) (ca : Option Addr) (cap : Nat) (F M : Int) (w : World) (h : n.kd = 3) (hl : n.cs.length ≤ 17592186044416) (hr : RdI w ca n.cs) :
    Calls Tryz.prog 64 #[.agg (nvs n ca cap), .int .i64 F, .int .i64 M] w fun e w' => e = .returned (.int .i64 (ndR n F M)) ∧ Keep w w' := by
  have hT : nvs n ca cap = #[.int .u8 n.kd, .int .i64 n.vl, .int .i64 n.ft, .float .f64 n.th, .slice ca n.cs.length cap, .int .u8 n.ms, .int .i64 n.lf, .int .i64 n.rt] := rfl
  obtain ⟨ln, hln⟩ : ∃ ln, n.cs.length = ln := ⟨_, rfl⟩
  rw [hln] at hT
  rw [hT]
  obtain ⟨w1, hw1, k1, t1, s1⟩ := boxed w #[.int .u8 n.kd, .int .i64 n.vl, .int .i64 n.ft, .float .f64 n.th, .slice ca ln cap, .int .u8 n.ms, .int .i64 n.lf, .int .i64 n.rt] 71
  clear hT
  obtain ⟨c0, c1, c2, c3, c4, c5, c6, c7⟩ := cells8 t1
  have fb := f64b n.th
  have e1 : ((n.kd : Int) == 1) = false := by rw [beq_eq_false_iff_ne]; omega
  have e2 : ((n.kd : Int) == 2) = false := by rw [beq_eq_false_iff_ne]; omega
  have e3 : ((n.kd : Int) == 3) = true := by rw [beq_iff_eq]; omega
  have hCt := refCats_any ca cap n.cs w1 hl (hr.keep k1)
  rw [hln] at hCt
  have KP0 := k1
  by_cases a1 : n.vl ≠ 0
  · have ea1 : (n.vl != 0) = true := by rw [bne, beq_eq_false_iff_ne.2 (by omega)]; rfl
    have HX : Hid (ndR n F M = 14) := by unfold Hid; rw [nd3_eq n F M h]; (repeat' split) <;> first | rfl | (exfalso; simp_all; done) | (exfalso; simp_all; omega) | (exfalso; omega)
    replace hln : Hid _ := hln
    clear a1 h
    go_enter Tryz.func64, Tryz.ntmps64
    go_wp2_with (first | rw [hw1] | (go_at_call 86; refine hCt.mono ?_; rintro e w2 ⟨rfl, k2⟩; have c5' := k2.cell c5; have c6' := k2.cell c6; have c7' := k2.cell c7))
    go_ret
    first | exact ⟨by rw [HX.out]; rfl, k1.trans k2⟩ | exact ⟨by rw [HX.out]; rfl, KP0⟩
  · have ea1 : (n.vl != 0) = false := by rw [bne, beq_iff_eq.2 (by omega)]; rfl
    by_cases a2 : n.th ≠ 0
    · have ea2 : ((n.th : Int) != 0) = true := by rw [bne, beq_eq_false_iff_ne.2 (by omega)]; rfl
      have HX : Hid (ndR n F M = 14) := by unfold Hid; rw [nd3_eq n F M h]; (repeat' split) <;> first | rfl | (exfalso; simp_all; done) | (exfalso; simp_all; omega) | (exfalso; omega)
      replace hln : Hid _ := hln
      clear a1 a2 h
      go_enter Tryz.func64, Tryz.ntmps64
      go_wp2_with (first | rw [hw1] | (go_at_call 86; refine hCt.mono ?_; rintro e w2 ⟨rfl, k2⟩; have c5' := k2.cell c5; have c6' := k2.cell c6; have c7' := k2.cell c7))
      go_ret
      first | exact ⟨by rw [HX.out]; rfl, k1.trans k2⟩ | exact ⟨by rw [HX.out]; rfl, KP0⟩
    · have ea2 : ((n.th : Int) != 0) = false := by rw [bne, beq_iff_eq.2 (by omega)]; rfl
      by_cases a3 : n.ft < 0
      · have ea3 : decide (n.ft < 0) = true := decide_eq_true (by omega)
        have HX : Hid (ndR n F M = 15) := by unfold Hid; rw [nd3_eq n F M h]; (repeat' split) <;> first | rfl | (exfalso; simp_all; done) | (exfalso; simp_all; omega) | (exfalso; omega)
        replace hln : Hid _ := hln
        clear a1 a2 a3 h
        go_enter Tryz.func64, Tryz.ntmps64
        go_wp2_with (first | rw [hw1] | (go_at_call 86; refine hCt.mono ?_; rintro e w2 ⟨rfl, k2⟩; have c5' := k2.cell c5; have c6' := k2.cell c6; have c7' := k2.cell c7))
        go_ret
        first | exact ⟨by rw [HX.out]; rfl, k1.trans k2⟩ | exact ⟨by rw [HX.out]; rfl, KP0⟩
      · have ea3 : decide (n.ft < 0) = false := decide_eq_false (by omega)
        by_cases a4 : F ≤ n.ft
        · have ea4 : decide (F ≤ n.ft) = true := decide_eq_true (by omega)
          have HX : Hid (ndR n F M = 15) := by unfold Hid; rw [nd3_eq n F M h]; (repeat' split) <;> first | rfl | (exfalso; simp_all; done) | (exfalso; simp_all; omega) | (exfalso; omega)
          replace hln : Hid _ := hln
          clear a1 a2 a3 a4 h
          go_enter Tryz.func64, Tryz.ntmps64
          go_wp2_with (first | rw [hw1] | (go_at_call 86; refine hCt.mono ?_; rintro e w2 ⟨rfl, k2⟩; have c5' := k2.cell c5; have c6' := k2.cell c6; have c7' := k2.cell c7))
          go_ret
          first | exact ⟨by rw [HX.out]; rfl, k1.trans k2⟩ | exact ⟨by rw [HX.out]; rfl, KP0⟩
        · have ea4 : decide (F ≤ n.ft) = false := decide_eq_false (by omega)
          by_cases a5 : catsB n.cs = false
          · rw [a5] at hCt
            have HX : Hid (ndR n F M = 17) := by unfold Hid; rw [nd3_eq n F M h]; (repeat' split) <;> first | rfl | (exfalso; simp_all; done) | (exfalso; simp_all; omega) | (exfalso; omega)
            replace hln : Hid _ := hln
            clear a1 a2 a3 a4 a5 h
            go_enter Tryz.func64, Tryz.ntmps64
            go_wp2_with (first | rw [hw1] | (go_at_call 86; refine hCt.mono ?_; rintro e w2 ⟨rfl, k2⟩; have c5' := k2.cell c5; have c6' := k2.cell c6; have c7' := k2.cell c7))
            go_ret
            first | exact ⟨by rw [HX.out]; rfl, k1.trans k2⟩ | exact ⟨by rw [HX.out]; rfl, KP0⟩
          · replace a5 : catsB n.cs = true := by cases hq : catsB n.cs with | true => rfl | false => exact absurd hq a5
            rw [a5] at hCt
            by_cases m1 : n.ms = 1
            · have em1 : ((n.ms : Int) != 1) = false := by rw [bne, beq_iff_eq.2 (by omega)]; rfl
              by_cases a7 : n.lf < 1
              · have ea7 : decide (n.lf < 1) = true := decide_eq_true (by omega)
                have HX : Hid (ndR n F M = 19) := by unfold Hid; rw [nd3_eq n F M h]; (repeat' split) <;> first | rfl | (exfalso; simp_all; done) | (exfalso; simp_all; omega) | (exfalso; omega)
                replace hln : Hid _ := hln
                clear a1 a2 a3 a4 a5 m1 a7 h
                go_enter Tryz.func64, Tryz.ntmps64
                go_wp2_with (first | rw [hw1] | (go_at_call 86; refine hCt.mono ?_; rintro e w2 ⟨rfl, k2⟩; have c5' := k2.cell c5; have c6' := k2.cell c6; have c7' := k2.cell c7))
                go_ret
                first | exact ⟨by rw [HX.out]; rfl, k1.trans k2⟩ | exact ⟨by rw [HX.out]; rfl, KP0⟩
              · have ea7 : decide (n.lf < 1) = false := decide_eq_false (by omega)
                by_cases a8 : M ≤ n.lf
                · have ea8 : decide (M ≤ n.lf) = true := decide_eq_true (by omega)
                  have HX : Hid (ndR n F M = 19) := by unfold Hid; rw [nd3_eq n F M h]; (repeat' split) <;> first | rfl | (exfalso; simp_all; done) | (exfalso; simp_all; omega) | (exfalso; omega)
                  replace hln : Hid _ := hln
                  clear a1 a2 a3 a4 a5 m1 a7 a8 h
                  go_enter Tryz.func64, Tryz.ntmps64
                  go_wp2_with (first | rw [hw1] | (go_at_call 86; refine hCt.mono ?_; rintro e w2 ⟨rfl, k2⟩; have c5' := k2.cell c5; have c6' := k2.cell c6; have c7' := k2.cell c7))
                  go_ret
                  first | exact ⟨by rw [HX.out]; rfl, k1.trans k2⟩ | exact ⟨by rw [HX.out]; rfl, KP0⟩
                · have ea8 : decide (M ≤ n.lf) = false := decide_eq_false (by omega)
                  by_cases a9 : n.rt < 1
                  · have ea9 : decide (n.rt < 1) = true := decide_eq_true (by omega)
                    have HX : Hid (ndR n F M = 19) := by unfold Hid; rw [nd3_eq n F M h]; (repeat' split) <;> first | rfl | (exfalso; simp_all; done) | (exfalso; simp_all; omega) | (exfalso; omega)
                    replace hln : Hid _ := hln
                    clear a1 a2 a3 a4 a5 m1 a7 a8 a9 h
                    go_enter Tryz.func64, Tryz.ntmps64
                    go_wp2_with (first | rw [hw1] | (go_at_call 86; refine hCt.mono ?_; rintro e w2 ⟨rfl, k2⟩; have c5' := k2.cell c5; have c6' := k2.cell c6; have c7' := k2.cell c7))
                    go_ret
                    first | exact ⟨by rw [HX.out]; rfl, k1.trans k2⟩ | exact ⟨by rw [HX.out]; rfl, KP0⟩
                  · have ea9 : decide (n.rt < 1) = false := decide_eq_false (by omega)
                    by_cases a10 : M ≤ n.rt
                    · have ea10 : decide (M ≤ n.rt) = true := decide_eq_true (by omega)
                      have HX : Hid (ndR n F M = 19) := by unfold Hid; rw [nd3_eq n F M h]; (repeat' split) <;> first | rfl | (exfalso; simp_all; done) | (exfalso; simp_all; omega) | (exfalso; omega)
                      replace hln : Hid _ := hln
                      clear a1 a2 a3 a4 a5 m1 a7 a8 a9 a10 h
                      go_enter Tryz.func64, Tryz.ntmps64
                      go_wp2_with (first | rw [hw1] | (go_at_call 86; refine hCt.mono ?_; rintro e w2 ⟨rfl, k2⟩; have c5' := k2.cell c5; have c6' := k2.cell c6; have c7' := k2.cell c7))
                      go_ret
                      first | exact ⟨by rw [HX.out]; rfl, k1.trans k2⟩ | exact ⟨by rw [HX.out]; rfl, KP0⟩
                    · have ea10 : decide (M ≤ n.rt) = false := decide_eq_false (by omega)
                      have HX : Hid (ndR n F M = 0) := by unfold Hid; rw [nd3_eq n F M h]; (repeat' split) <;> first | rfl | (exfalso; simp_all; done) | (exfalso; simp_all; omega) | (exfalso; omega)
                      replace hln : Hid _ := hln
                      clear a1 a2 a3 a4 a5 m1 a7 a8 a9 a10 h
                      go_enter Tryz.func64, Tryz.ntmps64
                      go_wp2_with (first | rw [hw1] | (go_at_call 86; refine hCt.mono ?_; rintro e w2 ⟨rfl, k2⟩; have c5' := k2.cell c5; have c6' := k2.cell c6; have c7' := k2.cell c7))
                      go_ret
                      first | exact ⟨by rw [HX.out]; rfl, k1.trans k2⟩ | exact ⟨by rw [HX.out]; rfl, KP0⟩
            · have em1 : ((n.ms : Int) != 1) = true := by rw [bne, beq_eq_false_iff_ne.2 (by omega)]; rfl
              by_cases m2 : n.ms = 2
              · have em2 : ((n.ms : Int) != 2) = false := by rw [bne, beq_iff_eq.2 (by omega)]; rfl
                by_cases a7 : n.lf < 1
                · have ea7 : decide (n.lf < 1) = true := decide_eq_true (by omega)
                  have HX : Hid (ndR n F M = 19) := by unfold Hid; rw [nd3_eq n F M h]; (repeat' split) <;> first | rfl | (exfalso; simp_all; done) | (exfalso; simp_all; omega) | (exfalso; omega)
                  replace hln : Hid _ := hln
                  clear a1 a2 a3 a4 a5 m1 m2 a7 h
                  go_enter Tryz.func64, Tryz.ntmps64
                  go_wp2_with (first | rw [hw1] | (go_at_call 86; refine hCt.mono ?_; rintro e w2 ⟨rfl, k2⟩; have c5' := k2.cell c5; have c6' := k2.cell c6; have c7' := k2.cell c7))
                  go_ret
                  first | exact ⟨by rw [HX.out]; rfl, k1.trans k2⟩ | exact ⟨by rw [HX.out]; rfl, KP0⟩
                · have ea7 : decide (n.lf < 1) = false := decide_eq_false (by omega)
                  by_cases a8 : M ≤ n.lf
                  · have ea8 : decide (M ≤ n.lf) = true := decide_eq_true (by omega)
                    have HX : Hid (ndR n F M = 19) := by unfold Hid; rw [nd3_eq n F M h]; (repeat' split) <;> first | rfl | (exfalso; simp_all; done) | (exfalso; simp_all; omega) | (exfalso; omega)
                    replace hln : Hid _ := hln
                    clear a1 a2 a3 a4 a5 m1 m2 a7 a8 h
                    go_enter Tryz.func64, Tryz.ntmps64
                    go_wp2_with (first | rw [hw1] | (go_at_call 86; refine hCt.mono ?_; rintro e w2 ⟨rfl, k2⟩; have c5' := k2.cell c5; have c6' := k2.cell c6; have c7' := k2.cell c7))
                    go_ret
                    first | exact ⟨by rw [HX.out]; rfl, k1.trans k2⟩ | exact ⟨by rw [HX.out]; rfl, KP0⟩
                  · have ea8 : decide (M ≤ n.lf) = false := decide_eq_false (by omega)
                    by_cases a9 : n.rt < 1
                    · have ea9 : decide (n.rt < 1) = true := decide_eq_true (by omega)
                      have HX : Hid (ndR n F M = 19) := by unfold Hid; rw [nd3_eq n F M h]; (repeat' split) <;> first | rfl | (exfalso; simp_all; done) | (exfalso; simp_all; omega) | (exfalso; omega)
                      replace hln : Hid _ := hln
                      clear a1 a2 a3 a4 a5 m1 m2 a7 a8 a9 h
                      go_enter Tryz.func64, Tryz.ntmps64
                      go_wp2_with (first | rw [hw1] | (go_at_call 86; refine hCt.mono ?_; rintro e w2 ⟨rfl, k2⟩; have c5' := k2.cell c5; have c6' := k2.cell c6; have c7' := k2.cell c7))
                      go_ret
                      first | exact ⟨by rw [HX.out]; rfl, k1.trans k2⟩ | exact ⟨by rw [HX.out]; rfl, KP0⟩
                    · have ea9 : decide (n.rt < 1) = false := decide_eq_false (by omega)
                      by_cases a10 : M ≤ n.rt
                      · have ea10 : decide (M ≤ n.rt) = true := decide_eq_true (by omega)
                        have HX : Hid (ndR n F M = 19) := by unfold Hid; rw [nd3_eq n F M h]; (repeat' split) <;> first | rfl | (exfalso; simp_all; done) | (exfalso; simp_all; omega) | (exfalso; omega)
                        replace hln : Hid _ := hln
                        clear a1 a2 a3 a4 a5 m1 m2 a7 a8 a9 a10 h
                        go_enter Tryz.func64, Tryz.ntmps64
                        go_wp2_with (first | rw [hw1] | (go_at_call 86; refine hCt.mono ?_; rintro e w2 ⟨rfl, k2⟩; have c5' := k2.cell c5; have c6' := k2.cell c6; have c7' := k2.cell c7))
                        go_ret
                        first | exact ⟨by rw [HX.out]; rfl, k1.trans k2⟩ | exact ⟨by rw [HX.out]; rfl, KP0⟩
                      · have ea10 : decide (M ≤ n.rt) = false := decide_eq_false (by omega)
                        have HX : Hid (ndR n F M = 0) := by unfold Hid; rw [nd3_eq n F M h]; (repeat' split) <;> first | rfl | (exfalso; simp_all; done) | (exfalso; simp_all; omega) | (exfalso; omega)
                        replace hln : Hid _ := hln
                        clear a1 a2 a3 a4 a5 m1 m2 a7 a8 a9 a10 h
                        go_enter Tryz.func64, Tryz.ntmps64
                        go_wp2_with (first | rw [hw1] | (go_at_call 86; refine hCt.mono ?_; rintro e w2 ⟨rfl, k2⟩; have c5' := k2.cell c5; have c6' := k2.cell c6; have c7' := k2.cell c7))
                        go_ret
                        first | exact ⟨by rw [HX.out]; rfl, k1.trans k2⟩ | exact ⟨by rw [HX.out]; rfl, KP0⟩
              · have em2 : ((n.ms : Int) != 2) = true := by rw [bne, beq_eq_false_iff_ne.2 (by omega)]; rfl
                have HX : Hid (ndR n F M = 18) := by unfold Hid; rw [nd3_eq n F M h]; (repeat' split) <;> first | rfl | (exfalso; simp_all; done) | (exfalso; simp_all; omega) | (exfalso; omega)
                replace hln : Hid _ := hln
                clear a1 a2 a3 a4 a5 m1 m2 h
                go_enter Tryz.func64, Tryz.ntmps64
                go_wp2_with (first | rw [hw1] | (go_at_call 86; refine hCt.mono ?_; rintro e w2 ⟨rfl, k2⟩; have c5' := k2.cell c5; have c6' := k2.cell c6; have c7' := k2.cell c7))
                go_ret
                first | exact ⟨by rw [HX.out]; rfl, k1.trans k2⟩ | exact ⟨by rw [HX.out]; rfl, KP0⟩
end Go.Proofs.YtodegcobkngmlaaGreatDoor
set_option linter.unusedVariables false
set_option linter.unusedSimpArgs false
namespace Go.Proofs.YtodegcobkngmlaaGreatDoor
open Go.RowKit Go.Shelf
theorem rnodeR_any (n : Nd) (ca : Option Addr) (cap : Nat) (F M : Int) (w : World) (ht : n.th < 18446744073709551616) (hl : n.cs.length ≤ 17592186044416) (hr : RdI w ca n.cs) :
    Calls Tryz.prog 64 #[.agg (nvs n ca cap), .int .i64 F, .int .i64 M] w fun e w' => e = .returned (.int .i64 (ndR n F M)) ∧ Keep w w' := by
  by_cases h1 : n.kd = 1
  · exact rnode_1 n ca cap F M w h1
  · by_cases h2 : n.kd = 2
    · exact rnode_2 n ca cap F M w h2 ht
    · by_cases h3 : n.kd = 3
      · exact rnode_3 n ca cap F M w h3 hl hr
      · exact rnode_0 n ca cap F M w h1 h2 h3
end Go.Proofs.YtodegcobkngmlaaGreatDoor
