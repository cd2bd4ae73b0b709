import Derived.Test.YtodegcobkngmlaaGreatDoorProg
import Derived.Test.YtodegcobkngmlaaGreatDoorQ9
import Derived.WalkKit
import Derived.WalkSpells
import Derived.WalkLawsBesides
import Derived.Deep.Draws
import Derived.Deep.QuietTactic
import Derived.BigQuiet
import Derived.Laws.Externs
import Derived.Laws.CopyOwn
import Derived.Shelf.Abstract
import Derived.Deep.RegionLaw
import Derived.BigRegion
import Derived.Deep.RegionHeld3
import Derived.RangeFuncBox
import Derived.RangeFuncLeaves
import Derived.RangeFuncCalls
import Derived.RangeFuncRecord
import Derived.Below
import Derived.OwnWalkIn
import Derived.TacticsInMore
import Derived.LoopNIn
import Derived.LoopIn
import Derived.Sort.LoopGhostIn
import Derived.Deep.RegionWith
import Derived.Stop.RegionWithIn
import Derived.Laws.MathBits
import Derived.Maps.OwnSet
import Derived.StringKeys
import Derived.RegionTactic
import Derived.Orders
import Derived.OrdersIn
import Derived.RegionIn
import Ieee.Arith
set_option linter.unusedVariables false
set_option linter.unusedSimpArgs false
namespace Go.Proofs.YtodegcobkngmlaaGreatDoor
open Go.RowKit Go.Shelf
/-- What the reference's Check holds between two rounds. -/
structure CIk (w wr : World) (cs : Array Value) : Prop where
  kp : Keep w wr
  b0 : wr.heap[w.heap.size]? = some (.cells cs 26 (0, 0))
  b1 : wr.heap[w.heap.size + 1]? = some (.cells #[.int .i64 0, .int .i64 0, .int .i64 0] 74 (0, 0))
theorem CIk.keep {w wr w' : World} {cs : Array Value} (h : CIk w wr cs) (k : Keep wr w') : CIk w w' cs := ⟨h.kp.trans k, k.at h.b0, k.at h.b1⟩
/-- .. with the broken rule's box. -/
structure CIb (w wr : World) (cs : Array Value) (g : Nat) (x0 x1 x2 : Int) : Prop extends CIk w wr cs where
  bb : wr.heap[g]? = some (.cells #[.int .i64 x0, .int .i64 x1, .int .i64 x2] 74 (0, 0))
theorem CIb.keep {w wr w' : World} {cs : Array Value} {g : Nat} {x0 x1 x2 : Int} (h : CIb w wr cs g x0 x1 x2) (k : Keep wr w') : CIb w w' cs g x0 x1 x2 := ⟨h.toCIk.keep k, k.at h.bb⟩
theorem CIb.set {w wr : World} {cs : Array Value} {g : Nat} {x0 x1 x2 : Int} (h : CIb w wr cs g x0 x1 x2) (hg : w.heap.size + 1 < g) (y0 y1 y2 : Int) : CIb w (((wr.setCell ⟨g, 0, none⟩ (.int .i64 y0)).setCell ⟨g, 1, none⟩ (.int .i64 y1)).setCell ⟨g, 2, none⟩ (.int .i64 y2)) cs g y0 y1 y2 := by
  have e : ∀ i, i ≠ g → (((wr.setCell ⟨g, 0, none⟩ (.int .i64 y0)).setCell ⟨g, 1, none⟩ (.int .i64 y1)).setCell ⟨g, 2, none⟩ (.int .i64 y2)).heap[i]? = wr.heap[i]? := fun i hi => by rw [neq_set _ g 2 _ i hi, neq_set _ g 1 _ i hi, neq_set _ g 0 _ i hi]
  exact ⟨⟨keep3 h.kp g (by omega) _ _ _, (e _ (by omega)).trans h.b0, (e _ (by omega)).trans h.b1⟩, heap3 wr g _ _ _ h.bb⟩
theorem chB_eq (nm : ByteArray) (fs : List ByteArray) (N : Int) (base : List Int) (ts : List (Int × List Nd)) : chB nm fs N base ts = if (or3 (hdS nm fs.length) (ftB fs) (ctS N base.length ts.length)).1 = 0 then (if (tsB N fs.length ts).1 = 0 then ouB base ts else tsB N fs.length ts) else or3 (hdS nm fs.length) (ftB fs) (ctS N base.length ts.length) := by
  show chF (bsC nm fs N base ts) 5 0 = _
  have h4 : (bsC nm fs N base ts 4).1 = 0 → bsC nm fs N base ts 4 = (0, 0, 0) := bsC_zero nm fs N base ts 4
  simp only [chF]
  show (if (hdS nm fs.length).1 = 0 then (if (ftB fs).1 = 0 then (if (ctS N base.length ts.length).1 = 0 then (if (tsB N fs.length ts).1 = 0 then (if (ouB base ts).1 = 0 then (0, 0, 0) else ouB base ts) else tsB N fs.length ts) else ctS N base.length ts.length) else ftB fs) else hdS nm fs.length) = _
  have h5 : (if (ouB base ts).1 = 0 then ((0, 0, 0) : Bk) else ouB base ts) = ouB base ts := by
    split
    · rename_i h; exact (h4 h).symm
    · rfl
  rw [h5]
  unfold or3
  by_cases a : (hdS nm fs.length).1 = 0
  · rw [if_pos a, if_pos a]
    by_cases b : (ftB fs).1 = 0
    · rw [if_pos b, if_pos b]
    · rw [if_neg b, if_neg b, if_neg b]
  · rw [if_neg a, if_neg a, if_neg a]
theorem or3_zero {nm : ByteArray} {fs : List ByteArray} {N : Int} {bl tl : Nat} (h : (or3 (hdS nm fs.length) (ftB fs) (ctS N bl tl)).1 = 0) : or3 (hdS nm fs.length) (ftB fs) (ctS N bl tl) = (0, 0, 0) ∧ (ctS N bl tl).1 = 0 := by
  unfold or3 at h ⊢
  by_cases a : (hdS nm fs.length).1 = 0
  · rw [if_pos a] at h ⊢
    by_cases b : (ftB fs).1 = 0
    · rw [if_pos b] at h ⊢
      exact ⟨sel_zero _ _ _ h (by intro x hx; simp at hx; rcases hx with rfl | rfl | rfl <;> simp), h⟩
    · rw [if_neg b] at h; exact absurd h b
  · rw [if_neg a] at h; exact absurd h a
end Go.Proofs.YtodegcobkngmlaaGreatDoor
set_option linter.unusedVariables false
set_option linter.unusedSimpArgs false
namespace Go.Proofs.YtodegcobkngmlaaGreatDoor
open Go.RowKit Go.Shelf
set_option maxRecDepth 100000 in
set_option maxHeartbeats 4000000 in
theorem rCheck_any (nm : ByteArray) (fa : Option Addr) (fs : List ByteArray) (cf : Nat) (N : Int) (ba : Option Addr) (base : List Int) (cb : Nat) (ta : Option Addr) (ts : List (Int × List Nd)) (ct : Nat) (w : World) (hA : EnA w nm fa fs ba base ta ts) :
    Calls Tryz.prog 29 #[.agg (ev nm fa fs.length cf N ba base.length cb ta ts.length ct)] w fun e w' => e = .returned (bkV (chB nm fs N base ts)) ∧ Keep w w' := by
  obtain ⟨w1, hw1, k1, t1, s1⟩ := boxed w (ev nm fa fs.length cf N ba base.length cb ta ts.length ct) 26
  obtain ⟨w2, hw2, k2, t2, s2⟩ := boxed w1 #[.int .i64 0, .int .i64 0, .int .i64 0] 74
  rw [s1] at t2 s2
  have kw2 := k1.trans k2
  have htl := hA.er.tl
  have hbl := hA.er.bl
  have hA2 := hA.keep kw2
  have hH := rhead_any nm fa fs cf N ba base.length cb ta ts.length ct w2 hA2.ns hA2.rf hA2.fl hA2.fz
  obtain ⟨R, HR⟩ : ∃ R, Hid (R = chB nm fs N base ts) := ⟨_, rfl⟩
  rw [← HR.out]
  have HR0 := chB_eq nm fs N base ts
  rw [← HR.out] at HR0
  replace HR0 : Hid _ := HR0
  clear HR
  have Hz : Hid ((or3 (hdS nm fs.length) (ftB fs) (ctS N base.length ts.length)).1 = 0 → or3 (hdS nm fs.length) (ftB fs) (ctS N base.length ts.length) = (0, 0, 0) ∧ (ctS N base.length ts.length).1 = 0) := or3_zero
  generalize or3 (hdS nm fs.length) (ftB fs) (ctS N base.length ts.length) = S at hH HR0 Hz
  have I2 : CIk w w2 (ev nm fa fs.length cf N ba base.length cb ta ts.length ct) := ⟨kw2, k2.at t1, t2⟩
  obtain ⟨z0, z1, z2, z3, z4⟩ := cells5 I2.b0
  replace I2 : Hid _ := I2
  by_cases hS : S.1 = 0
  · obtain ⟨rfl, hct⟩ := Hz.out hS
    have hN := (ct_ok hct).2.1
    subst hN
    have HR1 : Hid (R = if (tsB (base.length : Int) fs.length ts).1 = 0 then ouB base ts else tsB (base.length : Int) fs.length ts) := by unfold Hid; rw [HR0.out]; exact if_pos rfl
    clear hct Hz hS HR0
    change Calls Tryz.prog 38 _ w2 (fun e w' => e = .returned (.tuple #[.agg #[.int .i64 0, .int .i64 0, .int .i64 0], .bool false]) ∧ Keep w2 w') at hH
    obtain ⟨T, HT⟩ : ∃ T, Hid (T = tsF (base.length : Int) fs.length ts ts.length 0) := ⟨_, rfl⟩
    have HR2 : Hid (R = if T.1 = 0 then ouB base ts else T) := by unfold Hid; rw [HR1.out, HT.out]; rfl
    clear HR1
    go_enter Tryz.func29, Tryz.ntmps29
    go_wp2_with (first
      | rw [hw1] | rw [hw2]
      | (go_at_call 38; refine hH.mono ?_; rintro e w3 ⟨rfl, k3⟩
         obtain ⟨w4, w5, hw4, hw5, k5, t5, y0, y1, y2, g0, g1, g2⟩ := boxB w3 (.int .i64 0) (.int .i64 0) (.int .i64 0)
         have IB : CIb w w5 (ev nm fa fs.length cf (base.length : Int) ba base.length cb ta ts.length ct) w3.heap.size 0 0 0 := ⟨(I2.out.keep k3).keep k5, t5⟩
         replace IB : Hid _ := IB
         have hg : Hid (w.heap.size + 1 < w3.heap.size) := by unfold Hid; have := k3.le; omega))
    clear y0 y1 y2 g0 g1 g2 z0 z1 z2 z3 z4
    go_loopw [5] (fun i wr => ∃ k : Nat, i = .int .i64 (k : Int) ∧ k ≤ ts.length ∧ Hid (T = tsF (base.length : Int) fs.length ts (ts.length - k) k) ∧ Hid (CIb w wr (ev nm fa fs.length cf (base.length : Int) ba base.length cb ta ts.length ct) w3.heap.size 0 0 0)) (fun i wr => ts.length - (intOf i).toNat)
    case atStart => exact ⟨0, rfl, by omega, HT, IB⟩
    case round =>
      clear IB
      obtain ⟨k, rfl, hk, H, IB⟩ := hrel
      obtain ⟨z0, z1, z2, z3, z4⟩ := cells5 IB.out.b0
      by_cases hlt : k < ts.length
      · have hltc : (k : Int) < (ts.length : Int) := by omega
        have hAr := hA.keep IB.out.kp
        have hT := rtree_any nm fa fs.length cf (base.length : Int) ba base.length cb ta ts ct k wr hlt hAr.er.tl hAr.er.tn hAr.er.rt
        have H1 : Hid (tsF (base.length : Int) fs.length ts (ts.length - k) k = if (trB (ts.getD k (0, [])).1 (base.length : Int) fs.length (ts.getD k (0, [])).2 (k : Int)).1 = 0 then tsF (base.length : Int) fs.length ts (ts.length - (k + 1)) (k + 1) else trB (ts.getD k (0, [])).1 (base.length : Int) fs.length (ts.getD k (0, [])).2 (k : Int)) := by
          rw [show ts.length - k = (ts.length - (k + 1)) + 1 by omega, tsF]; rfl
        have HK : Hid (k < ts.length) := hlt
        have Hz : Hid ((trB (ts.getD k (0, [])).1 (base.length : Int) fs.length (ts.getD k (0, [])).2 (k : Int)).1 = 0 → trB (ts.getD k (0, [])).1 (base.length : Int) fs.length (ts.getD k (0, [])).2 (k : Int) = (0, 0, 0)) := trB_zero
        clear hlt hAr
        generalize trB (ts.getD k (0, [])).1 (base.length : Int) fs.length (ts.getD k (0, [])).2 (k : Int) = S at hT H1 Hz
        by_cases hS : S.1 = 0
        · obtain rfl := Hz.out hS
          clear hS Hz
          change Calls Tryz.prog 39 _ wr (fun e w' => e = .returned (.tuple #[.agg #[.int .i64 0, .int .i64 0, .int .i64 0], .bool false]) ∧ Keep wr w') at hT
          go_wp2_with (first
            | (go_at_call 39; refine hT.mono ?_; rintro e w6 ⟨rfl, k6⟩
               have I6 := IB.out.keep k6
               obtain ⟨d0, d1, d2, p0, p1, p2⟩ := cells3 I6.bb))
          go_roundw
          case rel => exact ⟨k + 1, by go_num, by have := HK.out; omega, by unfold Hid; rw [H.out, H1.out]; exact if_pos trivial, I6.set hg.out 0 0 0⟩
          case measure => have := HK.out; simp [intOf]; omega
        · obtain ⟨e0, e1, e2⟩ := S
          have hSc : (e0 != 0) = true := by simpa using hS
          have HX : Hid (R = (e0, e1, e2)) := by
            have hT2 : T = (e0, e1, e2) := by rw [H.out, H1.out]; exact if_neg hS
            unfold Hid; rw [HR2.out, hT2]; exact if_neg hS
          clear hS Hz
          have hT' : Calls Tryz.prog 39 #[.agg (ev nm fa fs.length cf (base.length : Int) ba base.length cb ta ts.length ct), .int .i64 (k : Int)] wr (fun e w' => e = .returned (.tuple #[.agg #[.int .i64 e0, .int .i64 e1, .int .i64 e2], .bool true]) ∧ Keep wr w') := by rw [← hSc]; exact hT
          clear hT hSc
          go_wp2_with (first
            | (go_at_call 39; refine hT'.mono ?_; rintro e w6 ⟨rfl, k6⟩
               have I6 := IB.out.keep k6
               obtain ⟨d0, d1, d2, p0, p1, p2⟩ := cells3 I6.bb
               have I7 := I6.set hg.out e0 e1 e2
               obtain ⟨w7, hw7⟩ : ∃ w7, (((w6.setCell ⟨w3.heap.size, 0, none⟩ (.int .i64 e0)).setCell ⟨w3.heap.size, 1, none⟩ (.int .i64 e1)).setCell ⟨w3.heap.size, 2, none⟩ (.int .i64 e2)) = w7 := ⟨_, rfl⟩
               rw [hw7] at I7
               obtain ⟨f0, f1, f2, -, -, -⟩ := cells3 I7.bb
               obtain ⟨r0, r1, r2, q0, q1, q2⟩ := cells3 I7.b1))
          have h := heap3 w7 (w.heap.size + 1) (.int .i64 e0) (.int .i64 e1) (.int .i64 e2) I7.b1
          have kk := keep3 I7.kp (w.heap.size + 1) (by omega) (.int .i64 e0) (.int .i64 e1) (.int .i64 e2)
          refine bodyPost_ret (ret_bk rfl _ _ (w.heap.size + 1) _ _ _ rfl h) rfl ⟨?_, kk⟩
          rw [HX.out]
      · have hltc : ¬ (k : Int) < (ts.length : Int) := by omega
        have hT0 : T = (0, 0, 0) := by rw [H.out, show ts.length - k = 0 by omega]; rfl
        obtain ⟨O, HO⟩ : ∃ O, Hid (O = ouF base ts base.length 0) := ⟨_, rfl⟩
        have HR3 : Hid (R = O) := by unfold Hid; rw [HR2.out, hT0, HO.out]; rfl
        have hMo := rFrom_nv 4611686018427387904 wr (by omega)
        clear hlt hT0 HR2 H
        go_wp2_with (first | (go_at_call 40; refine hMo.mono ?_; rintro e w6 ⟨v6, rfl, N6, k6⟩; have I6 := IB.out.toCIk.keep k6; replace I6 : Hid _ := I6))
        clear z0 z1 z2 z3 z4
        go_loopw [7] (fun i wz => ∃ j : Nat, i = .int .i64 (j : Int) ∧ j ≤ base.length ∧ Hid (O = ouF base ts (base.length - j) j) ∧ Hid (CIk w wz (ev nm fa fs.length cf (base.length : Int) ba base.length cb ta ts.length ct)) ∧ Keep w6 wz) (fun i wz => base.length - (intOf i).toNat)
        case atStart => exact ⟨0, rfl, by omega, HO, I6, Keep.refl _⟩
        case round =>
          rename World => wz
          obtain ⟨j, rfl, hj, H, I, kz⟩ := hrel
          obtain ⟨z0, z1, z2, z3, z4⟩ := cells5 I.out.b0
          by_cases hlt : j < base.length
          · have hltc : (j : Int) < (base.length : Int) := by omega
            have hRm := rRoom_any nm fa fs.length cf (base.length : Int) ba base cb ta ts ct j wz hlt (hA.er.keep I.out.kp)
            have H1 : Hid (ouF base ts (base.length - j) j = if okS base ts j = true then ouF base ts (base.length - (j + 1)) (j + 1) else (31, -1, (j : Int))) := by
              rw [show base.length - j = (base.length - (j + 1)) + 1 by omega, ouF]; rfl
            have HOk : Hid (okS base ts j = decide (rm base ts j < 4611686018427387904)) := rfl
            have HK : Hid (j < base.length) := hlt
            clear hlt
            generalize rm base ts j = r at hRm HOk
            generalize okS base ts j = ok at H1 HOk
            by_cases hr : r < 4611686018427387904
            · have H2 : Hid (O = ouF base ts (base.length - (j + 1)) (j + 1)) := by unfold Hid; rw [H.out, H1.out, HOk.out]; exact if_pos (decide_eq_true hr)
              have HQ : Hid (r < 4611686018427387904) := hr
              clear hr
              go_wp2_with (first
                | (go_at_call 41; refine hRm.mono ?_; rintro e w8 ⟨v8, rfl, N8, hb8, k8⟩
                   have hCm := rCmp_nv r 4611686018427387904 v8 v6 w8 N8 (N6.keep (kz.trans k8)) (by omega) (by omega))
                | (go_at_call 42; refine hCm.mono ?_; rintro e w9 ⟨⟨c, rfl, hc⟩, k9⟩
                   have hcc : ¬ (0 : Int) ≤ c := by have := hc.2 HQ.out; omega
                   clear hc))
              go_roundw
              case rel => exact ⟨j + 1, by go_num, by have := HK.out; omega, H2, I.out.keep (k8.trans k9), kz.trans (k8.trans k9)⟩
              case measure => have := HK.out; simp [intOf]; omega
            · have HX : Hid (R = (31, -1, (j : Int))) := by unfold Hid; rw [HR3.out, H.out, H1.out, HOk.out]; exact if_neg (by simpa using hr)
              have HQ : Hid (¬ r < 4611686018427387904) := hr
              clear hr
              go_wp2_with (first
                | (go_at_call 41; refine hRm.mono ?_; rintro e w8 ⟨v8, rfl, N8, hb8, k8⟩
                   have hCm := rCmp_nv r 4611686018427387904 v8 v6 w8 N8 (N6.keep (kz.trans k8)) (by omega) (by omega))
                | (go_at_call 42; refine hCm.mono ?_; rintro e w9 ⟨⟨c, rfl, hc⟩, k9⟩
                   have hcc : (0 : Int) ≤ c := by have := HQ.out; have h2 := hc.1; omega
                   clear hc
                   have I9 := I.out.keep (k8.trans k9)
                   obtain ⟨r0, r1, r2, q0, q1, q2⟩ := cells3 I9.b1))
              have h := heap3 w9 (w.heap.size + 1) (.int .i64 31) (.int .i64 (-1)) (.int .i64 (j : Int)) I9.b1
              have kk := keep3 I9.kp (w.heap.size + 1) (by omega) (.int .i64 31) (.int .i64 (-1)) (.int .i64 (j : Int))
              refine bodyPost_ret (ret_bk rfl _ _ (w.heap.size + 1) _ _ _ rfl h) rfl ⟨?_, kk⟩
              rw [HX.out]
          · have hltc : ¬ (j : Int) < (base.length : Int) := by omega
            have HX : Hid (R = (0, 0, 0)) := by unfold Hid; rw [HR3.out, H.out, show base.length - j = 0 by omega]; rfl
            obtain ⟨r0, r1, r2, q0, q1, q2⟩ := cells3 I.out.b1
            clear hlt
            go_wp2_with fail
            have h := heap3 _ (w.heap.size + 1) (.int .i64 0) (.int .i64 0) (.int .i64 0) I.out.b1
            have kk := keep3 I.out.kp (w.heap.size + 1) (by omega) (.int .i64 0) (.int .i64 0) (.int .i64 0)
            refine bodyPost_ret (ret_bk rfl _ _ (w.heap.size + 1) _ _ _ rfl h) rfl ⟨?_, kk⟩
            rw [HX.out]
  · obtain ⟨e0, e1, e2⟩ := S
    have hSc : (e0 != 0) = true := by simpa using hS
    have HX : Hid (R = (e0, e1, e2)) := by unfold Hid; rw [HR0.out]; exact if_neg hS
    have hH' : Calls Tryz.prog 38 #[.agg (ev nm fa fs.length cf N ba base.length cb ta ts.length ct)] w2 (fun e w' => e = .returned (.tuple #[.agg #[.int .i64 e0, .int .i64 e1, .int .i64 e2], .bool true]) ∧ Keep w2 w') := by rw [← hSc]; exact hH
    clear hH hSc hS Hz HR0
    go_enter Tryz.func29, Tryz.ntmps29
    go_wp2_with (first
      | rw [hw1] | rw [hw2]
      | (go_at_call 38; refine hH'.mono ?_; rintro e w3 ⟨rfl, k3⟩
         obtain ⟨w4, w5, hw4, hw5, k5, t5, y0, y1, y2, g0, g1, g2⟩ := boxB w3 (.int .i64 e0) (.int .i64 e1) (.int .i64 e2)
         obtain ⟨f0, f1, f2, -, -, -⟩ := cells3 t5
         have I5 := (I2.out.keep k3).keep k5
         obtain ⟨r0, r1, r2, q0, q1, q2⟩ := cells3 I5.b1))
    have h := heap3 w5 (w.heap.size + 1) (.int .i64 e0) (.int .i64 e1) (.int .i64 e2) I5.b1
    have kk := keep3 I5.kp (w.heap.size + 1) (by omega) (.int .i64 e0) (.int .i64 e1) (.int .i64 e2)
    refine bodyPost_ret (ret_bk rfl _ _ (w.heap.size + 1) _ _ _ rfl h) rfl ⟨?_, kk⟩
    rw [HX.out]
end Go.Proofs.YtodegcobkngmlaaGreatDoor
