import Derived.Test.YtodegcobkngmlaaDoorProg
import Derived.Test.YtodegcobkngmlaaDoorD5
import Derived.WalkKit
import Derived.WalkSpells
import Derived.WalkLawsBesides
import Derived.Deep.Draws
import Derived.Deep.QuietTactic
import Derived.BigQuiet
import Derived.Laws.Externs
import Derived.Laws.CopyOwn
import Derived.Shelf.Abstract
import Derived.Deep.RegionLaw
import Derived.BigRegion
import Derived.Deep.RegionHeld3
import Derived.RangeFuncBox
import Derived.RangeFuncLeaves
import Derived.RangeFuncCalls
import Derived.RangeFuncRecord
import Derived.Below
import Derived.OwnWalkIn
import Derived.TacticsInMore
import Derived.LoopNIn
import Derived.LoopIn
import Derived.Sort.LoopGhostIn
import Derived.Deep.RegionWith
import Derived.Stop.RegionWithIn
set_option linter.unusedVariables false
set_option linter.unusedSimpArgs false
namespace Go.Proofs.YtodegcobkngmlaaDoor
open Go.RowKit Go.Shelf
attribute [local go_sem] run_store_func run_store_float
set_option maxRecDepth 100000 in
set_option maxHeartbeats 1500000 in
theorem ofTree_any (nm : ByteArray) (fa : Option Addr) (Fn cf : Nat) (N : Int) (ba : Option Addr) (bl cb : Nat) (ta : Option Addr) (tl ct : Nat) (out : Int) (na : Option Addr) (nc : Nat) (L : List Nd) (t : Int) (w : World) (hN : 0 ≤ N ∧ N ≤ 4611686018427387904) (hF : (Fn : Int) ≤ 4611686018427387904) (hL : L.length ≤ 1759218604441) (hr : RdN w na L) :
    Calls Tryd.prog 47 #[.agg (ev nm fa Fn cf N ba bl cb ta tl ct), .agg #[.int .i64 out, .slice na L.length nc], .int .i64 t] w fun e w' => e = .returned (bkV (trB out N Fn L t)) ∧ Keep w w' := by
  have HB : Hid (trB out N Fn L t = if (sel [(11, winB out 0 (N - 1)), (12, winB (L.length : Int) 1 8191)] t (-1)).1 = 0 then (if (tnF L Fn t L.length 0).1 = 0 then sel [(20, shE L == 0)] t (shI L : Int) else tnF L Fn t L.length 0) else sel [(11, winB out 0 (N - 1)), (12, winB (L.length : Int) 1 8191)] t (-1)) := rfl
  generalize trB out N Fn L t = B at HB ⊢
  obtain ⟨w1, hw1, k1, t1, s1⟩ := boxed w (ev nm fa Fn cf N ba bl cb ta tl ct) 26
  obtain ⟨w2, hw2, k2, t2, s2⟩ := boxed w1 #[.int .i64 out, .slice na L.length nc] 46
  obtain ⟨w3, hw3, k3, t3, s3⟩ := boxed w2 #[.int .i64 0, .int .i64 0, .int .i64 0] 54
  obtain ⟨w4, hw4, k4, t4, s4⟩ := boxed w3 #[.int .i64 11, .func (.func 61) #[] #[pv (w.heap.size + 1), pv w.heap.size], .int .i64 12, .func (.func 62) #[] #[pv (w.heap.size + 1)]] 92
  rw [s1] at t2 s2
  rw [s2] at t3 s3
  rw [s3] at t4 s4
  have k14 := k2.trans (k3.trans k4)
  have q1 := k14.at t1
  have q2 := (k3.trans k4).at t2
  have q3 := k4.at t3
  have kw4 := k1.trans k14
  have hR : RdR w4 (some ⟨w.heap.size + 1 + 1 + 1, 0, none⟩) [(11, 61, #[pv (w.heap.size + 1), pv w.heap.size]), (12, 62, #[pv (w.heap.size + 1)])] := rdR_of t4 (by
    intro j hj
    match j, hj with
    | 0, _ => exact ⟨rfl, rfl⟩
    | 1, _ => exact ⟨rfl, rfl⟩)
  have hFa := first_any (some ⟨w.heap.size + 1 + 1 + 1, 0, none⟩) 2 _ (bsl [winB out 0 (N - 1), winB (L.length : Int) 1 8191]) t (-1) w4 hR (by simp) (by
    intro j hj
    match j, hj with
    | 0, _ => exact tr1_ans q2 q1 hN
    | 1, _ => exact tr2_ans q2)
  have HE : Hid (fsB [(11, 61, #[pv (w.heap.size + 1), pv w.heap.size]), (12, 62, #[pv (w.heap.size + 1)])] (bsl [winB out 0 (N - 1), winB (L.length : Int) 1 8191]) t (-1) = sel [(11, winB out 0 (N - 1)), (12, winB (L.length : Int) 1 8191)] t (-1)) := rfl
  rw [HE.out] at hFa
  clear HE hR t1 t2 t3 t4
  have Hz : Hid ((sel [(11, winB out 0 (N - 1)), (12, winB (L.length : Int) 1 8191)] t (-1)).1 = 0 → sel [(11, winB out 0 (N - 1)), (12, winB (L.length : Int) 1 8191)] t (-1) = (0, 0, 0)) := fun h => sel_zero _ _ _ h (by intro x hx; simp at hx; rcases hx with rfl | rfl <;> simp)
  generalize sel [(11, winB out 0 (N - 1)), (12, winB (L.length : Int) 1 8191)] t (-1) = S at HB hFa Hz
  have kz : Keep w w := Keep.refl w
  by_cases hS : S.1 = 0
  · obtain rfl := Hz.out hS
    have HB1 : Hid (B = if (tnF L Fn t L.length 0).1 = 0 then sel [(20, shE L == 0)] t (shI L : Int) else tnF L Fn t L.length 0) := by unfold Hid; rw [HB.out, if_pos rfl]
    clear HB Hz hS
    change Calls Tryd.prog 37 _ w4 (fun e w' => e = .returned (.agg #[.int .i64 0, .int .i64 0, .int .i64 0]) ∧ Keep w4 w') at hFa
    go_enter Tryd.func47, Tryd.ntmps47
    go_wp2_with (first
      | rw [hw1] | rw [hw2] | rw [hw3] | rw [hw4]
      | (go_at_call 37; refine hFa.mono ?_; rintro e w5 ⟨rfl, k5⟩
         obtain ⟨w6, w7, hw6, hw7, k7, t7, y0, y1, y2, g0, g1, g2⟩ := boxB w5 (.int .i64 0) (.int .i64 0) (.int .i64 0)
         obtain ⟨c0, c1, c2, -, -, -⟩ := cells3 t7
         obtain ⟨w8, hw8, k8, t8, s8⟩ := boxed w7 #[.int .u8 0, .int .i64 0, .int .i64 0, .float .f64 0, .slice none 0 0, .int .u8 0, .int .i64 0, .int .i64 0] 67
         have k48 := k5.trans (k7.trans k8)
         obtain ⟨-, z1, -, -, -⟩ := cells5 (k48.at q1)
         obtain ⟨z2, z3, -, -⟩ := cells2 (k48.at q2)
         have hNR := nodeRules_any w7.heap.size (Fn : Int) (L.length : Int) w8
         rw [s8] at hNR)
      | (go_at_call 63; refine hNR.mono ?_; rintro e w9 ⟨rfl, k9, R9, s9⟩
         have I9 : TIt w w9 out na nc L w7.heap.size (w7.heap.size + 1) Fn := ⟨kw4.trans (k48.trans k9), k9.at (k48.at q2), k9.at (k48.at q3), ⟨_, _, _, _, _, _, _, _, k9.at t8⟩, R9⟩
         replace I9 : Hid _ := I9
         obtain ⟨z4, z5, -, -⟩ := cells2 (k9.at (k48.at q2))))
    have hg : w.heap.size + 1 + 1 < w7.heap.size := by have := k5.le; have := k7.le; omega
    have hgs : w7.heap.size < w7.heap.size + 1 := by omega
    replace hg : Hid _ := hg
    replace hgs : Hid _ := hgs
    obtain ⟨T, HT⟩ : ∃ T, Hid (T = tnF L Fn t L.length 0) := ⟨_, rfl⟩
    rw [← HT.out] at HB1
    clear y0 y1 y2 g0 g1 g2 c0 c1 c2 z1 z2 z3 z4 z5 t7 t8 R9 s9 hNR hFa
    go_loopw [35] (fun i wr => ∃ k : Nat, i = .int .i64 (k : Int) ∧ k ≤ L.length ∧ Hid (T = tnF L Fn t (L.length - k) k) ∧ Hid (TIt w wr out na nc L w7.heap.size (w7.heap.size + 1) Fn)) (fun i wr => L.length - (intOf i).toNat)
    case atStart => exact ⟨0, rfl, by omega, HT, I9⟩
    case round =>
      obtain ⟨k, rfl, hk, H, I⟩ := hrel
      by_cases hlt : k < L.length
      · have hltc : (k : Int) < (L.length : Int) := by omega
        obtain ⟨b, o, ca, cap, rfl, hA0⟩ := hr k hlt
        have hA := hA0.keep I.out.kp
        obtain ⟨v0, v1, v2, v3, v4, v5, v6, v7, hv⟩ := I.out.bn
        obtain ⟨f0, f1, f2, f3, f4, f5, f6, f7⟩ := frozen8 hv
        obtain ⟨e0, e1, e2, e3, e4, e5, e6, e7⟩ := cells8 hv
        obtain ⟨z4, z5, -, -⟩ := cells2 I.out.bt
        have H1 : Hid (tnF L Fn t (L.length - k) k = if (sel (ndS (L.getD k nd0) Fn (L.length : Int)) t (k : Int)).1 = 0 then tnF L Fn t (L.length - (k + 1)) (k + 1) else sel (ndS (L.getD k nd0) Fn (L.length : Int)) t (k : Int)) := by
          rw [show L.length - k = (L.length - (k + 1)) + 1 by omega, tnF]; rfl
        have HK : Hid (k < L.length) := hlt
        clear hlt
        generalize L.getD k nd0 = n at hA H1 hA0
        have hrd0 := hA0.rd
        clear hA0
        obtain ⟨a0, a1, a2, a3, a4, a5, a6, a7, hrd, hcp, hsz, hok⟩ := hA
        obtain ⟨IA, nA⟩ := I.out.node hg.out hgs.out (.int .u8 n.kd) (.int .i64 n.vl) (.int .i64 n.ft) (.float .f64 n.th) (.slice ca n.cs.length cap) (.int .u8 n.ms) (.int .i64 n.lf) (.int .i64 n.rt)
        obtain ⟨wA, hwA⟩ : ∃ wA, ((((((((wr.setCell ⟨w7.heap.size, 0, none⟩ (.int .u8 n.kd)).setCell ⟨w7.heap.size, 1, none⟩ (.int .i64 n.vl)).setCell ⟨w7.heap.size, 2, none⟩ (.int .i64 n.ft)).setCell ⟨w7.heap.size, 3, none⟩ (.float .f64 n.th)).setCell ⟨w7.heap.size, 4, none⟩ (.slice ca n.cs.length cap)).setCell ⟨w7.heap.size, 5, none⟩ (.int .u8 n.ms)).setCell ⟨w7.heap.size, 6, none⟩ (.int .i64 n.lf)).setCell ⟨w7.heap.size, 7, none⟩ (.int .i64 n.rt)) = wA := ⟨_, rfl⟩
        rw [hwA] at IA nA
        have hrA : RdI wA ca n.cs := hrd0.keep IA.kp
        have hFi := IA.rs.first nA hrA hsz ⟨by omega, hF⟩ ⟨by omega, by omega⟩ t (k : Int)
        have Hz : Hid ((sel (ndS n Fn (L.length : Int)) t (k : Int)).1 = 0 → sel (ndS n Fn (L.length : Int)) t (k : Int) = (0, 0, 0)) := fun h => sel_zero _ _ _ h (ndS_ne _ _ _)
        generalize sel (ndS n Fn (L.length : Int)) t (k : Int) = S at H1 hFi Hz
        by_cases hS : S.1 = 0
        · obtain rfl := Hz.out hS
          clear hS Hz
          change Calls Tryd.prog 37 _ wA (fun e w' => e = .returned (.agg #[.int .i64 0, .int .i64 0, .int .i64 0]) ∧ Keep wA w') at hFi
          go_wp2_with (first
            | (go_at_call 37; refine hFi.mono ?_; rintro e wB ⟨rfl, kB⟩
               obtain ⟨wC, wD, hwC, hwD, kD, tD, y0, y1, y2, g0, g1, g2⟩ := boxB wB (.int .i64 0) (.int .i64 0) (.int .i64 0)
               obtain ⟨c0, c1, c2, -, -, -⟩ := cells3 tD))
          go_roundw
          case rel => exact ⟨k + 1, by go_num, by have := HK.out; omega, by unfold Hid; rw [H.out, H1.out, if_pos trivial], (IA.keep kB).keep kD⟩
          case measure => have := HK.out; simp [intOf]; omega
        · obtain ⟨x0, x1, x2⟩ := S
          have hSc : (x0 != 0) = true := by simpa using hS
          have IB := IA
          go_wp2_with (first
            | (go_at_call 37; refine hFi.mono ?_; rintro e wB ⟨rfl, kB⟩
               obtain ⟨wC, wD, hwC, hwD, kD, tD, y0, y1, y2, g0, g1, g2⟩ := boxB wB (.int .i64 x0) (.int .i64 x1) (.int .i64 x2)
               obtain ⟨c0, c1, c2, -, -, -⟩ := cells3 tD
               have ID := (IB.keep kB).keep kD
               obtain ⟨d0, d1, d2, p0, p1, p2⟩ := cells3 ID.br))
          have h := heap3 wD (w.heap.size + 1 + 1) (.int .i64 x0) (.int .i64 x1) (.int .i64 x2) ID.br
          have kk := keep3 ID.kp (w.heap.size + 1 + 1) (by omega) (.int .i64 x0) (.int .i64 x1) (.int .i64 x2)
          refine bodyPost_ret (ret_bk rfl _ _ (w.heap.size + 1 + 1) _ _ _ rfl h) rfl ⟨?_, kk⟩
          have hT : T = (x0, x1, x2) := by rw [H.out, H1.out, if_neg hS]
          rw [HB1.out, hT, if_neg hS]
      · have hltc : ¬ (k : Int) < (L.length : Int) := by omega
        have hT : T = (0, 0, 0) := by rw [H.out, show L.length - k = 0 by omega]; rfl
        have HB2 : Hid (B = sel [(20, shE L == 0)] t (shI L : Int)) := by unfold Hid; rw [HB1.out, hT, if_pos rfl]
        obtain ⟨z4, z5, -, -⟩ := cells2 I.out.bt
        have hSh := Shape_any wr na nc out L (by omega) (hr.keep I.out.kp)
        generalize shE L = z at hSh HB2
        generalize (shI L : Nat) = y at hSh HB2
        clear hlt hT
        go_wp2_with (first
          | (go_at_call 19; refine hSh.mono ?_; rintro e wB ⟨rfl, kB⟩
             obtain ⟨wC, hwC, kC, tC, sC⟩ := boxed wB #[.int .i64 z] 29
             obtain ⟨wD, hwD, kD, tD, sD⟩ := boxed wC #[.int .i64 20, .func (.func 64) #[] #[pv wB.heap.size]] 92
             rw [sC] at tD sD
             have hR : RdR wD (some ⟨wB.heap.size + 1, 0, none⟩) [(20, 64, #[pv wB.heap.size])] := rdR_of tD (by
               intro j hj
               match j, hj with
               | 0, _ => exact ⟨rfl, rfl⟩)
             have hFi := first_any (some ⟨wB.heap.size + 1, 0, none⟩) 1 _ (bsl [z == 0]) t (y : Int) wD hR (by simp) (by
               intro j hj
               match j, hj with
               | 0, _ => exact tr3_ans (kD.at tC))
             have HE : Hid (fsB [(20, 64, #[pv wB.heap.size])] (bsl [z == 0]) t (y : Int) = sel [(20, z == 0)] t (y : Int)) := rfl
             rw [HE.out, ← HB2.out] at hFi
             obtain ⟨x0, x1, x2⟩ := B
             have ID := ((I.out.keep kB).keep kC).keep kD
             clear HE hR)
          | (go_at_call 37; refine hFi.mono ?_; rintro e wE ⟨rfl, kE⟩
             have IE := ID.keep kE
             obtain ⟨d0, d1, d2, p0, p1, p2⟩ := cells3 IE.br))
        have h := heap3 wE (w.heap.size + 1 + 1) (.int .i64 x0) (.int .i64 x1) (.int .i64 x2) IE.br
        have kk := keep3 IE.kp (w.heap.size + 1 + 1) (by omega) (.int .i64 x0) (.int .i64 x1) (.int .i64 x2)
        exact bodyPost_ret (ret_bk rfl _ _ (w.heap.size + 1 + 1) _ _ _ rfl h) rfl ⟨rfl, kk⟩
  · obtain ⟨x0, x1, x2⟩ := S
    have HB1 : Hid (B = (x0, x1, x2)) := by unfold Hid; rw [HB.out, if_neg hS]
    have hSc : (x0 != 0) = true := by simpa using hS
    clear HB Hz hS
    go_enter Tryd.func47, Tryd.ntmps47
    go_wp2_with (first
      | rw [hw1] | rw [hw2] | rw [hw3] | rw [hw4]
      | (go_at_call 37; refine hFa.mono ?_; rintro e w5 ⟨rfl, k5⟩
         obtain ⟨w6, w7, hw6, hw7, k7, t7, y0, y1, y2, g0, g1, g2⟩ := boxB w5 (.int .i64 x0) (.int .i64 x1) (.int .i64 x2)
         obtain ⟨c0, c1, c2, -, -, -⟩ := cells3 t7
         have q7 := (k5.trans k7).at q3
         obtain ⟨d0, d1, d2, p0, p1, p2⟩ := cells3 q7))
    have h := heap3 w7 (w.heap.size + 1 + 1) (.int .i64 x0) (.int .i64 x1) (.int .i64 x2) q7
    have kk := keep3 (kw4.trans (k5.trans k7)) (w.heap.size + 1 + 1) (by omega) (.int .i64 x0) (.int .i64 x1) (.int .i64 x2)
    refine bodyPost_ret (ret_bk rfl _ _ (w.heap.size + 1 + 1) _ _ _ rfl h) rfl ⟨?_, kk⟩
    rw [HB1.out]
end Go.Proofs.YtodegcobkngmlaaDoor
