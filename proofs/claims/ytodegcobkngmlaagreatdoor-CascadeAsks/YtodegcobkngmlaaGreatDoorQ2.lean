import Derived.Test.YtodegcobkngmlaaGreatDoorProg
import Derived.Test.YtodegcobkngmlaaGreatDoorK2
import Derived.Test.YtodegcobkngmlaaGreatDoorQ1
import Derived.WalkKit
import Derived.WalkSpells
import Derived.WalkLawsBesides
import Derived.Deep.Draws
import Derived.Deep.QuietTactic
import Derived.BigQuiet
import Derived.Laws.Externs
import Derived.Laws.CopyOwn
import Derived.Shelf.Abstract
import Derived.Deep.RegionLaw
import Derived.BigRegion
import Derived.Deep.RegionHeld3
import Derived.RangeFuncBox
import Derived.RangeFuncLeaves
import Derived.RangeFuncCalls
import Derived.RangeFuncRecord
import Derived.Below
import Derived.OwnWalkIn
import Derived.TacticsInMore
import Derived.LoopNIn
import Derived.LoopIn
import Derived.Sort.LoopGhostIn
import Derived.Deep.RegionWith
import Derived.Stop.RegionWithIn
import Derived.Laws.MathBits
import Derived.Maps.OwnSet
import Derived.StringKeys
import Derived.RegionTactic
import Derived.Orders
import Derived.OrdersIn
import Derived.RegionIn
set_option linter.unusedVariables false
set_option linter.unusedSimpArgs false
namespace Go.Proofs.YtodegcobkngmlaaGreatDoor
open Go.RowKit Go.Shelf Go.Maps
theorem results_box {fn : Func} {t u : Tmp} (h : fn.results = #[.cell t 74, .tmp u]) (tmps : Array Value) (w : World) (g : Nat) (v0 v1 v2 : Value) (hp : tmps.getD t undef = .pointer (some ⟨g, 0, none⟩)) (hh : w.heap[g]? = some (.cells #[v0, v1, v2] 74 (0, 0))) :
    (results fn tmps).run Tryz.prog w = .ok (.tuple #[.agg #[v0, v1, v2], tmps.getD u undef]) w := by
  have c0 := cell_of_row _ _ 0 _ 74 (0, 0) hh
  have c1 := cell_of_row _ _ 1 _ 74 (0, 0) hh
  have c2 := cell_of_row _ _ 2 _ 74 (0, 0) hh
  simp only [List.getElem?_toArray, List.getElem?_cons_zero, List.getElem?_cons_succ] at c0 c1 c2
  have hp' : (tmps[t]?).getD undef = .pointer (some ⟨g, 0, none⟩) := by simpa using hp
  simp [results, h, hp, hp', go_sem, c0, c1, c2]
theorem broken_any (r t n : Int) (w : World) : Calls Tryz.prog 63 #[.int .i64 r, .int .i64 t, .int .i64 n] w fun e w' => e = .returned (.tuple #[.agg #[.int .i64 r, .int .i64 t, .int .i64 n], .bool true]) ∧ Keep w w' := by
  obtain ⟨w1, hw1, k1, t1, s1⟩ := boxed w #[.int .i64 0, .int .i64 0, .int .i64 0] 74
  obtain ⟨c0, c1, c2, f0, f1, f2⟩ := cells3 t1
  go_enter Tryz.func63, Tryz.ntmps63
  go_wp2_with (rw [hw1])
  have h := heap3 w1 w.heap.size (.int .i64 r) (.int .i64 t) (.int .i64 n) t1
  have kk := keep3 k1 w.heap.size (Nat.le_refl _) (.int .i64 r) (.int .i64 t) (.int .i64 n)
  exact bodyPost_ret (results_box rfl _ _ w.heap.size _ _ _ rfl h) rfl ⟨rfl, kk⟩
/-- The first of some parts that says something. -/
def or3 (a b c : Bk) : Bk := if a.1 = 0 then (if b.1 = 0 then c else b) else a
abbrev bkT (b : Bk) : Value := .tuple #[bkV b, .bool (b.1 != 0)]
structure HIt (w wr : World) (cs : Array Value) (fs : List ByteArray) (k : Nat) : Prop where
  kp : Keep w wr
  b0 : wr.heap[w.heap.size]? = some (.cells cs 26 (0, 0))
  b1 : wr.heap[w.heap.size + 1]? = some (.cells #[.int .i64 0, .int .i64 0, .int .i64 0] 74 (0, 0))
  b3 : CntM wr (w.heap.size + 1 + 1) k (sn fs k)
theorem HIt.put {w wr w' : World} {cs : Array Value} {fs : List ByteArray} {k : Nat} (h : HIt w wr cs fs k) (hs : CntM w' (w.heap.size + 1 + 1) (k + 1) (sn fs (k + 1))) (hg : wr.grownBy w' (some (w.heap.size + 1 + 1))) : HIt w w' cs fs (k + 1) := by
  have e : ∀ i, i < wr.heap.size → i ≠ w.heap.size + 1 + 1 → w'.heap[i]? = wr.heap[i]? := fun i h1 h2 => hg.block i h1 (by simpa using h2)
  exact ⟨Below.grown h.kp hg h.kp.size (fun j hj => by cases hj; omega), (e _ (lt_of_at h.b0) (by omega)).trans h.b0, (e _ (lt_of_at h.b1) (by omega)).trans h.b1, hs⟩
set_option maxRecDepth 100000 in
set_option maxHeartbeats 3000000 in
theorem rhead_any (nm : ByteArray) (fa : Option Addr) (fs : List ByteArray) (cf : Nat) (N : Int) (ba : Option Addr) (bl cb : Nat) (ta : Option Addr) (tl ct : Nat) (w : World) (hns : nm.size ≤ 281474976710656) (hf : RdS w fa fs) (hfl : fs.length ≤ 8796093022208) (hfz : ∀ j, j < fs.length → (fs.getD j ByteArray.empty).size ≤ 281474976710656) :
    Calls Tryz.prog 38 #[.agg (ev nm fa fs.length cf N ba bl cb ta tl ct)] w fun e w' => e = .returned (bkT (or3 (hdS nm fs.length) (ftB fs) (ctS N bl tl))) ∧ Keep w w' := by
  obtain ⟨w1, hw1, k1, t1, s1⟩ := boxed w (ev nm fa fs.length cf N ba bl cb ta tl ct) 26
  obtain ⟨w2, hw2, k2, t2, s2⟩ := boxed w1 #[.int .i64 0, .int .i64 0, .int .i64 0] 74
  rw [s1] at t2 s2
  have kw2 := k1.trans k2
  have q1 := k2.at t1
  obtain ⟨z0, z1, z2, z3, z4⟩ := cells5 q1
  have hNm := rName_any nm w2 hns
  obtain ⟨R, HR⟩ : ∃ R, Hid (R = or3 (hdS nm fs.length) (ftB fs) (ctS N bl tl)) := ⟨_, rfl⟩
  rw [← HR.out]
  have HH : Hid (hdS nm fs.length = if nameB nm = true then (if winB fs.length 1 65536 = true then (0, 0, 0) else (2, -1, -1)) else (1, -1, -1)) := rfl
  cases hb : nameB nm with
  | false =>
    rw [hb] at hNm HH
    have HR1 : Hid (R = (1, -1, -1)) := by unfold Hid; rw [HR.out, or3, HH.out]; rfl
    go_enter Tryz.func38, Tryz.ntmps38
    go_wp2_with (first
      | rw [hw1] | rw [hw2]
      | (go_at_call 62; refine hNm.mono ?_; rintro e wx ⟨rfl, hx⟩; rw [hx]; clear hx wx)
      | (go_at_call 63; refine (broken_any _ _ _ _).mono ?_; rintro e w3 ⟨rfl, k3⟩; have q3 := k3.at t2; obtain ⟨d0, d1, d2, p0, p1, p2⟩ := cells3 q3))
    have h := heap3 w3 (w.heap.size + 1) (.int .i64 1) (.int .i64 (-1)) (.int .i64 (-1)) q3
    have kk := keep3 (kw2.trans k3) (w.heap.size + 1) (by omega) (.int .i64 1) (.int .i64 (-1)) (.int .i64 (-1))
    refine bodyPost_ret (results_box rfl _ _ (w.heap.size + 1) _ _ _ rfl h) rfl ⟨?_, kk⟩
    rw [HR1.out]; rfl
  | true =>
    rw [hb] at hNm HH
    by_cases hF1 : fs.length < 1
    · have hF1c : decide ((fs.length : Int) < 1) = true := decide_eq_true (by omega)
      have HR1 : Hid (R = (2, -1, -1)) := by
        have hHd : hdS nm fs.length = (2, -1, -1) := by rw [HH.out, if_pos (rfl : true = true), if_neg (fun h => by have := win_ok h; omega)]
        unfold Hid; rw [HR.out, or3, hHd]; rfl
      clear hF1 hb HH
      go_enter Tryz.func38, Tryz.ntmps38
      go_wp2_with (first
        | rw [hw1] | rw [hw2]
        | (go_at_call 62; refine hNm.mono ?_; rintro e wx ⟨rfl, hx⟩; rw [hx]; clear hx wx)
        | (go_at_call 63; refine (broken_any _ _ _ _).mono ?_; rintro e w3 ⟨rfl, k3⟩; have q3 := k3.at t2; obtain ⟨d0, d1, d2, p0, p1, p2⟩ := cells3 q3))
      have h := heap3 w3 (w.heap.size + 1) (.int .i64 2) (.int .i64 (-1)) (.int .i64 (-1)) q3
      have kk := keep3 (kw2.trans k3) (w.heap.size + 1) (by omega) (.int .i64 2) (.int .i64 (-1)) (.int .i64 (-1))
      refine bodyPost_ret (results_box rfl _ _ (w.heap.size + 1) _ _ _ rfl h) rfl ⟨?_, kk⟩
      rw [HR1.out]; rfl
    · by_cases hF2 : 65536 < fs.length
      · have hF1c : decide ((fs.length : Int) < 1) = false := decide_eq_false (by omega)
        have hF2c : decide ((65536 : Int) < (fs.length : Int)) = true := decide_eq_true (by omega)
        have HR1 : Hid (R = (2, -1, -1)) := by
          have hHd : hdS nm fs.length = (2, -1, -1) := by rw [HH.out, if_pos (rfl : true = true), if_neg (fun h => by have := win_ok h; omega)]
          unfold Hid; rw [HR.out, or3, hHd]; rfl
        clear hF1 hF2 hb HH
        go_enter Tryz.func38, Tryz.ntmps38
        go_wp2_with (first
          | rw [hw1] | rw [hw2]
          | (go_at_call 62; refine hNm.mono ?_; rintro e wx ⟨rfl, hx⟩; rw [hx]; clear hx wx)
          | (go_at_call 63; refine (broken_any _ _ _ _).mono ?_; rintro e w3 ⟨rfl, k3⟩; have q3 := k3.at t2; obtain ⟨d0, d1, d2, p0, p1, p2⟩ := cells3 q3))
        have h := heap3 w3 (w.heap.size + 1) (.int .i64 2) (.int .i64 (-1)) (.int .i64 (-1)) q3
        have kk := keep3 (kw2.trans k3) (w.heap.size + 1) (by omega) (.int .i64 2) (.int .i64 (-1)) (.int .i64 (-1))
        refine bodyPost_ret (results_box rfl _ _ (w.heap.size + 1) _ _ _ rfl h) rfl ⟨?_, kk⟩
        rw [HR1.out]; rfl
      · have hF1c : decide ((fs.length : Int) < 1) = false := decide_eq_false (by omega)
        have hF2c : decide ((65536 : Int) < (fs.length : Int)) = false := decide_eq_false (by omega)
        have hFl : fs.length ≤ 65536 := by omega
        have HR1 : Hid (R = if (ftB fs).1 = 0 then ctS N bl tl else ftB fs) := by
          have hw : winB (fs.length : Int) 1 65536 = true := by unfold winB; rw [decide_eq_true (by omega), decide_eq_true (by omega)]; rfl
          have hHd : hdS nm fs.length = (0, 0, 0) := by rw [HH.out, if_pos (rfl : true = true), if_pos hw]
          unfold Hid; rw [HR.out, or3, hHd]; rfl
        obtain ⟨w4, hw4, k4, t4, s4⟩ : ∃ w4, w2.alloc (.map #[] 0) = w4 ∧ Keep w2 w4 ∧ CntM w4 w2.heap.size 0 [] ∧ w4.heap.size = w2.heap.size + 1 := ⟨_, rfl, (Keep.refl _).alloc _, CntM.made w2, by simp⟩
        rw [s2] at t4 s4
        have hI : HIt w w4 (ev nm fa fs.length cf N ba bl cb ta tl ct) fs 0 := ⟨kw2.trans k4, k4.at q1, k4.at t2, t4⟩
        have hmm := @run_makeMap Tryz.prog
        replace hI : Hid _ := hI
        obtain ⟨T, HT⟩ : ∃ T, Hid (T = ftF fs fs.length 0) := ⟨_, rfl⟩
        have HR2 : Hid (R = if T.1 = 0 then ctS N bl tl else T) := by unfold Hid; rw [HR1.out, HT.out]; rfl
        clear hF1 hF2 hb HH HR HR1 t4
        go_enter Tryz.func38, Tryz.ntmps38
        go_wp2_with (first
          | rw [hw1] | rw [hw2] | rw [hw4]
          | (go_at_call 62; refine hNm.mono ?_; rintro e wx ⟨rfl, hx⟩; rw [hx]; clear hx wx))
        go_loopw [6] (fun i wr => ∃ k : Nat, i = .int .i64 (k : Int) ∧ k ≤ fs.length ∧ Hid (T = ftF fs (fs.length - k) k) ∧ Hid (HIt w wr (ev nm fa fs.length cf N ba bl cb ta tl ct) fs k)) (fun i wr => fs.length - (intOf i).toNat)
        case atStart => exact ⟨0, rfl, by omega, HT, hI⟩
        case round =>
          obtain ⟨k, rfl, hk, H, I⟩ := hrel
          clear z0 z1 z2 z3 z4
          obtain ⟨z0, z1, z2, z3, z4⟩ := cells5 I.out.b0
          by_cases hlt : k < fs.length
          · have hltc : (k : Int) < (fs.length : Int) := by omega
            have hz := hfz k hlt
            obtain ⟨b, o, rfl, x0⟩ := (hf.keep I.out.kp) k hlt
            have H1 : Hid (ftF fs (fs.length - k) k = if nameB (fs.getD k ByteArray.empty) = true then (if inSet (fs.getD k ByteArray.empty) (sn fs k) = true then (4, -1, (k : Int)) else ftF fs (fs.length - (k + 1)) (k + 1)) else (3, -1, (k : Int))) := by
              rw [show fs.length - k = (fs.length - (k + 1)) + 1 by omega, ftF]; rfl
            have HS : Hid (sn fs (k + 1) = fs.getD k ByteArray.empty :: sn fs k) := rfl
            have HK : Hid (k < fs.length) := hlt
            clear hlt hNm
            generalize fs.getD k ByteArray.empty = s at x0 H1 hz HS
            have hN2 := rName_any s wr hz
            have hlk := I.out.b3.look hz
            obtain ⟨wP, hput, MP, GP⟩ := I.out.b3.put (by omega) hz
            cases hb : nameB s with
            | false =>
              rw [hb] at hN2 H1
              have HX : Hid (R = (3, -1, (k : Int))) := by
                have hT : T = (3, -1, (k : Int)) := by rw [H.out, H1.out]; rfl
                unfold Hid; rw [HR2.out, hT]; rfl
              clear hput hlk
              go_wp2_with (first | (go_at_call 62; refine hN2.mono ?_; rintro e wx ⟨rfl, hx⟩; rw [hx]; clear hx wx) | (go_at_call 63; refine (broken_any _ _ _ _).mono ?_; rintro e w3 ⟨rfl, k3⟩; have q3 := k3.at I.out.b1; have KP := I.out.kp.trans k3; obtain ⟨d0, d1, d2, p0, p1, p2⟩ := cells3 q3))
              have h := heap3 w3 (w.heap.size + 1) (.int .i64 3) (.int .i64 (-1)) (.int .i64 (k : Int)) q3
              have kk := keep3 KP (w.heap.size + 1) (by omega) (.int .i64 3) (.int .i64 (-1)) (.int .i64 (k : Int))
              refine bodyPost_ret (results_box rfl _ _ (w.heap.size + 1) _ _ _ rfl h) rfl ⟨?_, kk⟩
              rw [HX.out]; rfl
            | true =>
              rw [hb] at hN2 H1
              cases hc : inSet s (sn fs k) with
              | true =>
                rw [hc] at hlk H1
                rw [if_pos rfl] at hlk
                have HX : Hid (R = (4, -1, (k : Int))) := by
                  have hT : T = (4, -1, (k : Int)) := by rw [H.out, H1.out]; rfl
                  unfold Hid; rw [HR2.out, hT]; rfl
                clear hput
                go_wp2_with (first | (go_at_call 62; refine hN2.mono ?_; rintro e wx ⟨rfl, hx⟩; rw [hx]; clear hx wx) | (go_at_call 63; refine (broken_any _ _ _ _).mono ?_; rintro e w3 ⟨rfl, k3⟩; have q3 := k3.at I.out.b1; have KP := I.out.kp.trans k3; obtain ⟨d0, d1, d2, p0, p1, p2⟩ := cells3 q3))
                have h := heap3 w3 (w.heap.size + 1) (.int .i64 4) (.int .i64 (-1)) (.int .i64 (k : Int)) q3
                have kk := keep3 KP (w.heap.size + 1) (by omega) (.int .i64 4) (.int .i64 (-1)) (.int .i64 (k : Int))
                refine bodyPost_ret (results_box rfl _ _ (w.heap.size + 1) _ _ _ rfl h) rfl ⟨?_, kk⟩
                rw [HX.out]; rfl
              | false =>
                rw [hc] at hlk H1
                rw [if_neg (by simp)] at hlk
                go_wp2_with (first | (go_at_call 62; refine hN2.mono ?_; rintro e wx ⟨rfl, hx⟩; rw [hx]; clear hx wx))
                go_roundw
                case rel => exact ⟨k + 1, by go_num, by have := HK.out; omega, by unfold Hid; rw [H.out, H1.out]; rfl, I.out.put (by rw [HS.out]; exact MP) GP⟩
                case measure => have := HK.out; simp [intOf]; omega
          · have hltc : ¬ (k : Int) < (fs.length : Int) := by omega
            have hT : T = (0, 0, 0) := by rw [H.out, show fs.length - k = 0 by omega]; rfl
            have HC : Hid (R = ctS N bl tl) := by unfold Hid; rw [HR2.out, hT]; rfl
            have HD : Hid (ctS N bl tl = if winB N 1 64 = true then (if ((bl : Int) == N) = true then (if decide ((tl : Int) ≤ 65536) = true then (0, 0, 0) else (7, -1, -1)) else (6, -1, -1)) else (5, -1, -1)) := rfl
            clear hlt hT HR2 H hNm
            by_cases c1 : N < 1
            · have e1 : decide (N < 1) = true := decide_eq_true c1
              have HX : Hid (R = (5, -1, -1)) := by
                unfold Hid; rw [HC.out, HD.out, if_neg (fun h => by have := win_ok h; omega)]
              clear c1 HC HD
              go_wp2_with (first | (go_at_call 63; refine (broken_any _ _ _ _).mono ?_; rintro e w3 ⟨rfl, k3⟩; have q3 := k3.at I.out.b1; have KP := I.out.kp.trans k3; obtain ⟨d0, d1, d2, p0, p1, p2⟩ := cells3 q3))
              have h := heap3 w3 (w.heap.size + 1) (.int .i64 5) (.int .i64 (-1)) (.int .i64 (-1)) q3
              have kk := keep3 KP (w.heap.size + 1) (by omega) (.int .i64 5) (.int .i64 (-1)) (.int .i64 (-1))
              refine bodyPost_ret (results_box rfl _ _ (w.heap.size + 1) _ _ _ rfl h) rfl ⟨?_, kk⟩
              rw [HX.out]; rfl
            · by_cases c2 : 64 < N
              · have e1 : decide (N < 1) = false := decide_eq_false c1
                have e2 : decide (64 < N) = true := decide_eq_true c2
                have HX : Hid (R = (5, -1, -1)) := by
                  unfold Hid; rw [HC.out, HD.out, if_neg (fun h => by have := win_ok h; omega)]
                clear c1 c2 HC HD
                go_wp2_with (first | (go_at_call 63; refine (broken_any _ _ _ _).mono ?_; rintro e w3 ⟨rfl, k3⟩; have q3 := k3.at I.out.b1; have KP := I.out.kp.trans k3; obtain ⟨d0, d1, d2, p0, p1, p2⟩ := cells3 q3))
                have h := heap3 w3 (w.heap.size + 1) (.int .i64 5) (.int .i64 (-1)) (.int .i64 (-1)) q3
                have kk := keep3 KP (w.heap.size + 1) (by omega) (.int .i64 5) (.int .i64 (-1)) (.int .i64 (-1))
                refine bodyPost_ret (results_box rfl _ _ (w.heap.size + 1) _ _ _ rfl h) rfl ⟨?_, kk⟩
                rw [HX.out]; rfl
              · by_cases c3 : (bl : Int) = N
                · by_cases c4 : tl ≤ 65536
                  · have e1 : decide (N < 1) = false := decide_eq_false c1
                    have e2 : decide (64 < N) = false := decide_eq_false c2
                    have e3 : ((bl : Int) != N) = false := by rw [bne, beq_iff_eq.2 c3]; rfl
                    have e4 : decide ((65536 : Int) < (tl : Int)) = false := decide_eq_false (by omega)
                    have HX : Hid (R = (0, 0, 0)) := by
                      have hw : winB N 1 64 = true := by unfold winB; rw [decide_eq_true (by omega), decide_eq_true (by omega)]; rfl
                      unfold Hid; rw [HC.out, HD.out, if_pos hw, if_pos (beq_iff_eq.2 c3), if_pos (decide_eq_true (by omega))]
                    clear c1 c2 c3 c4 HC HD
                    obtain ⟨d0, d1, d2, p0, p1, p2⟩ := cells3 I.out.b1
                    have KP := I.out.kp
                    go_wp2_with fail
                    have h := heap3 wr (w.heap.size + 1) (.int .i64 0) (.int .i64 0) (.int .i64 0) I.out.b1
                    have kk := keep3 KP (w.heap.size + 1) (by omega) (.int .i64 0) (.int .i64 0) (.int .i64 0)
                    refine bodyPost_ret (results_box rfl _ _ (w.heap.size + 1) _ _ _ rfl h) rfl ⟨?_, kk⟩
                    rw [HX.out]; rfl
                  · have e1 : decide (N < 1) = false := decide_eq_false c1
                    have e2 : decide (64 < N) = false := decide_eq_false c2
                    have e3 : ((bl : Int) != N) = false := by rw [bne, beq_iff_eq.2 c3]; rfl
                    have e4 : decide ((65536 : Int) < (tl : Int)) = true := decide_eq_true (by omega)
                    have HX : Hid (R = (7, -1, -1)) := by
                      have hw : winB N 1 64 = true := by unfold winB; rw [decide_eq_true (by omega), decide_eq_true (by omega)]; rfl
                      unfold Hid; rw [HC.out, HD.out, if_pos hw, if_pos (beq_iff_eq.2 c3), if_neg (fun h => by have := of_decide_eq_true h; omega)]
                    clear c1 c2 c3 c4 HC HD
                    go_wp2_with (first | (go_at_call 63; refine (broken_any _ _ _ _).mono ?_; rintro e w3 ⟨rfl, k3⟩; have q3 := k3.at I.out.b1; have KP := I.out.kp.trans k3; obtain ⟨d0, d1, d2, p0, p1, p2⟩ := cells3 q3))
                    have h := heap3 w3 (w.heap.size + 1) (.int .i64 7) (.int .i64 (-1)) (.int .i64 (-1)) q3
                    have kk := keep3 KP (w.heap.size + 1) (by omega) (.int .i64 7) (.int .i64 (-1)) (.int .i64 (-1))
                    refine bodyPost_ret (results_box rfl _ _ (w.heap.size + 1) _ _ _ rfl h) rfl ⟨?_, kk⟩
                    rw [HX.out]; rfl
                · have e1 : decide (N < 1) = false := decide_eq_false c1
                  have e2 : decide (64 < N) = false := decide_eq_false c2
                  have e3 : ((bl : Int) != N) = true := by rw [bne, beq_eq_false_iff_ne.2 c3]; rfl
                  have HX : Hid (R = (6, -1, -1)) := by
                    have hw : winB N 1 64 = true := by unfold winB; rw [decide_eq_true (by omega), decide_eq_true (by omega)]; rfl
                    unfold Hid; rw [HC.out, HD.out, if_pos hw, if_neg (fun h => c3 (by simpa using h))]
                  clear c1 c2 c3 HC HD
                  go_wp2_with (first | (go_at_call 63; refine (broken_any _ _ _ _).mono ?_; rintro e w3 ⟨rfl, k3⟩; have q3 := k3.at I.out.b1; have KP := I.out.kp.trans k3; obtain ⟨d0, d1, d2, p0, p1, p2⟩ := cells3 q3))
                  have h := heap3 w3 (w.heap.size + 1) (.int .i64 6) (.int .i64 (-1)) (.int .i64 (-1)) q3
                  have kk := keep3 KP (w.heap.size + 1) (by omega) (.int .i64 6) (.int .i64 (-1)) (.int .i64 (-1))
                  refine bodyPost_ret (results_box rfl _ _ (w.heap.size + 1) _ _ _ rfl h) rfl ⟨?_, kk⟩
                  rw [HX.out]; rfl
end Go.Proofs.YtodegcobkngmlaaGreatDoor
