import Derived.Test.YtodegcobkngmlaaGreatDoorProg
import Derived.Test.YtodegcobkngmlaaGreatDoorCS6
import Derived.Test.YtodegcobkngmlaaGreatDoorK2
import Derived.WalkKit
import Derived.WalkSpells
import Derived.WalkLawsBesides
import Derived.Deep.Draws
import Derived.Deep.QuietTactic
import Derived.BigQuiet
import Derived.Laws.Externs
import Derived.Laws.CopyOwn
import Derived.Shelf.Abstract
import Derived.Deep.RegionLaw
import Derived.BigRegion
import Derived.Deep.RegionHeld3
import Derived.RangeFuncBox
import Derived.RangeFuncLeaves
import Derived.RangeFuncCalls
import Derived.RangeFuncRecord
import Derived.Below
import Derived.OwnWalkIn
import Derived.TacticsInMore
import Derived.LoopNIn
import Derived.LoopIn
import Derived.Sort.LoopGhostIn
import Derived.Deep.RegionWith
import Derived.Stop.RegionWithIn
import Derived.Laws.MathBits
import Derived.Maps.OwnSet
import Derived.StringKeys
import Derived.RegionTactic
import Derived.Orders
import Derived.OrdersIn
import Derived.RegionIn
import Ieee.Arith
import Derived.Laws.StructEq
import Derived.Lib.BufferWrite
import Derived.Lib.UnsafeStr
import Derived.Laws.MakeOwn
import Derived.Deep.CutBlock
import Derived.Deep.CutRange
import Derived.WalkMore
set_option linter.unusedVariables false
set_option linter.unusedSimpArgs false
namespace Go.Proofs.YtodegcobkngmlaaGreatDoor
open Go.RowKit Go.Shelf
theorem isOutput_any (nm : ByteArray) (fa : Option Addr) (Fn cf : Nat) (N : Int) (ba : Option Addr) (bl cb : Nat) (ta : Option Addr) (tl ct : Nat) (o : Int) (w : World) :
    Calls Tryz.prog 10 #[.agg (ev nm fa Fn cf N ba bl cb ta tl ct), .int .i64 o] w fun e w' => e = .returned (.bool (decide (0 ≤ o ∧ o < N))) ∧ Keep w w' := by
  obtain ⟨w1, hw1, k1, t1, s1⟩ := boxed w (ev nm fa Fn cf N ba bl cb ta tl ct) 26
  obtain ⟨x0, x1, x2, x3, x4⟩ := cells5 t1
  by_cases h0 : 0 ≤ o
  · have h0c : decide (o ≥ 0) = true := decide_eq_true h0
    have e1 : decide (0 ≤ o ∧ o < N) = decide (o < N) := by simp [h0]
    rw [e1]
    go_enter Tryz.func10, Tryz.ntmps10
    go_wp2_with (rw [hw1])
    go_ret
    exact ⟨rfl, k1⟩
  · have h0c : decide (o ≥ 0) = false := decide_eq_false h0
    rw [decide_eq_false (fun h => h0 h.1)]
    go_enter Tryz.func10, Tryz.ntmps10
    go_wp2_with (rw [hw1])
    go_ret
    exact ⟨rfl, k1⟩
set_option maxRecDepth 100000 in
/-- What is wrong with an ensemble and one vector. -/
theorem errorOf_any (nm : ByteArray) (fa : Option Addr) (fs : List ByteArray) (cf : Nat) (N : Int) (ba : Option Addr) (base : List Int) (cb : Nat) (ta : Option Addr) (ts : List (Int × List Nd)) (ct : Nat) (b c m cx : Nat) (ax : Option Addr) (w : World) (h : EnA w nm fa fs ba base ta ts) (hx : w.cell? ⟨b, 0, none⟩ = some (.slice ax m cx)) :
    Calls Tryz.prog 9 #[.agg (ev nm fa fs.length cf N ba base.length cb ta ts.length ct), .slice (some ⟨b, 0, none⟩) 1 c] w fun e w' => e = .returned (.int .i64 (if (chB nm fs N base ts).1 = 0 then (if m = fs.length then 0 else 72) else 5)) ∧ Keep w w' := by
  obtain ⟨w1, hw1, k1, t1, s1⟩ := boxed w (ev nm fa fs.length cf N ba base.length cb ta ts.length ct) 26
  obtain ⟨x0, x1, x2, x3, x4⟩ := cells5 t1
  have hV := Valid_any nm fa fs cf N ba base cb ta ts ct w1 (h.keep k1)
  obtain ⟨B, hB⟩ : ∃ B, ((chB nm fs N base ts).1 == 0) = B := ⟨_, rfl⟩
  rw [hB] at hV
  cases B with
  | false =>
    have hne : ¬ (chB nm fs N base ts).1 = 0 := by simpa using hB
    rw [if_neg hne]
    clear hne hB
    go_enter Tryz.func9, Tryz.ntmps9
    go_wp2_with (first | rw [hw1] | (go_at_call 18; refine hV.mono ?_; rintro e w2 ⟨rfl, k2⟩))
    go_ret
    exact ⟨rfl, k1.trans k2⟩
  | true =>
    have hne : (chB nm fs N base ts).1 = 0 := by simpa using hB
    rw [if_pos hne]
    clear hne hB
    obtain ⟨F, hF⟩ : ∃ F, fs.length = F := ⟨_, rfl⟩
    rw [hF] at hV x1 hw1 t1 ⊢
    obtain ⟨R, hR⟩ : ∃ R : Int, (if m = F then (0 : Int) else 72) = R := ⟨_, rfl⟩
    rw [hR]
    replace hR : Hid _ := hR
    go_enter Tryz.func9, Tryz.ntmps9
    go_wp2_with (first | rw [hw1] | (go_at_call 18; refine hV.mono ?_; rintro e w2 ⟨rfl, k2⟩; obtain ⟨y0, y1, y2, y3, y4⟩ := cells5 (k2.at t1); have hx2 := (k1.trans k2).cell hx))
    go_loopw [12] (fun iv wr => ∃ k : Nat, iv = .int .i64 k ∧ k ≤ 1 ∧ Hid (k = 1 → m = F) ∧ wr = w2) (fun iv _ => 1 - (intOf iv).toNat)
    case atStart => exact ⟨0, rfl, by omega, fun h => by omega, rfl⟩
    case round =>
      obtain ⟨k, rfl, hk, hm, rfl⟩ := hrel
      by_cases hk0 : k = 0
      · subst hk0
        by_cases hmf : m = F
        · have hmc : ((m : Int) != (F : Int)) = false := by rw [hmf]; simp
          replace hmf : Hid _ := hmf
          go_wp2_with fail
          exact ⟨⟨1, by go_num, by omega, fun _ => hmf.out, by trivial⟩, by simp [intOf]⟩
        · have hmc : ((m : Int) != (F : Int)) = true := by rw [bne_iff_ne]; omega
          have h72 : Hid (R = 72) := by unfold Hid; rw [← hR.out, if_neg hmf]
          clear hmf
          go_wp2_with fail
          go_ret
          exact ⟨by rw [h72.out]; rfl, k1.trans k2⟩
      · obtain rfl : k = 1 := by omega
        have h00 : Hid (R = 0) := by unfold Hid; rw [← hR.out, if_pos (hm.out rfl)]
        go_wp2_with fail
        go_ret
        exact ⟨by rw [h00.out]; rfl, k1.trans k2⟩
end Go.Proofs.YtodegcobkngmlaaGreatDoor
set_option linter.unusedVariables false
set_option linter.unusedSimpArgs false
namespace Go.Proofs.YtodegcobkngmlaaGreatDoor
open Go.RowKit Go.Shelf
/-- That one output may be greater than another. -/
def bdB (l : List (Int × Int)) (o p : Nat) : Bool := (decide (p < o) && decide ((l.getD o (0, 0)).1 ≤ (l.getD p (0, 0)).2)) || (decide (o < p) && decide ((l.getD o (0, 0)).1 < (l.getD p (0, 0)).2))
def bdF (l : List (Int × Int)) (o : Nat) : Nat → Nat → Bool
  | 0, _ => false
  | f + 1, p => if bdB l o p = true then true else bdF l o f (p + 1)
/-- The output that is certain to be the greatest. -/
def grF (l : List (Int × Int)) : Nat → Nat → Nat × Bool
  | 0, _ => (0, false)
  | f + 1, k => if bdF l k l.length 0 = true then grF l f (k + 1) else (k, true)
set_option maxRecDepth 100000 in
set_option maxHeartbeats 1000000 in
theorem greatest_any (g c : Nat) (l : List (Int × Int)) (w : World) (hl : l.length ≤ 64) (hg : w.heap[g]? = some (.cells (VB l).toArray 42 (0, 0))) :
    Calls Tryz.prog 14 #[.slice (some ⟨g, 0, none⟩) l.length c] w fun e w' => e = .returned (.tuple #[.int .i64 ((grF l l.length 0).1 : Nat), .bool (grF l l.length 0).2]) ∧ Keep w w' := by
  obtain ⟨R, hR⟩ : ∃ R, grF l l.length 0 = R := ⟨_, rfl⟩
  rw [hR]
  have HR : Hid (R = grF l (l.length - 0) 0) := hR.symm
  clear hR
  obtain ⟨n, hn⟩ : ∃ n, l.length = n := ⟨_, rfl⟩
  have HN : Hid (l.length = n) := hn
  rw [hn] at hl HR ⊢
  clear hn
  go_enter Tryz.func14, Tryz.ntmps14
  go_wp2_with fail
  go_step3
  go_wp2_with fail
  go_step3
  go_wp2_with fail
  go_loopw [10] (fun iv wr => ∃ k : Nat, iv = .int .i64 k ∧ k ≤ n ∧ Hid (R = grF l (n - k) k) ∧ Keep w wr) (fun iv _ => n - (intOf iv).toNat)
  case atStart => exact ⟨0, rfl, by omega, HR, Keep.refl w⟩
  case round =>
    obtain ⟨k, rfl, hk, H, kr⟩ := hrel
    by_cases hkl : k < n
    · have hkc : (k : Int) < (n : Int) := by omega
      have H1 : Hid (R = if bdF l k (n - 0) 0 = true then grF l (n - (k + 1)) (k + 1) else (k, true)) := by
        have h := H.out
        rw [show n - k = (n - (k + 1)) + 1 by omega, grF, HN.out] at h
        exact h
      have G := kr.at hg
      have y0 : wr.cell? ⟨g, k * 2, none⟩ = some (.int .i64 (l.getD k (0, 0)).1) := by rw [cell_of_row _ _ _ _ 42 (0, 0) G]; simpa using VB_lo l k (by rw [HN.out]; exact hkl)
      have y1 : wr.cell? ⟨g, k * 2 + 1, none⟩ = some (.int .i64 (l.getD k (0, 0)).2) := by rw [cell_of_row _ _ _ _ 42 (0, 0) G]; simpa using VB_hi l k (by rw [HN.out]; exact hkl)
      obtain ⟨⟨a, b⟩, hab⟩ : ∃ ab, l.getD k (0, 0) = ab := ⟨_, rfl⟩
      have Hab : Hid (l.getD k (0, 0) = (a, b)) := hab
      rw [hab] at y0 y1
      replace y0 : wr.cell? ⟨g, k * 2, none⟩ = some (.int .i64 a) := y0
      replace y1 : wr.cell? ⟨g, k * 2 + 1, none⟩ = some (.int .i64 b) := y1
      clear hab
      obtain ⟨wA, hwA, kA, tA, sA⟩ := boxed wr #[.int .i64 a, .int .i64 b] 42
      obtain ⟨p1, hp1⟩ : ∃ p1, wr.heap.size = p1 := ⟨_, rfl⟩
      rw [hp1] at tA
      replace sA : Hid _ := sA
      go_wp2_with fail
      clear hwA
      go_loopw [17] (fun iv ws => ∃ p : Nat, iv = .int .i64 p ∧ p ≤ n ∧ Hid (bdF l k (n - 0) 0 = bdF l k (n - p) p) ∧ Keep wA ws) (fun iv _ => n - (intOf iv).toNat)
      case atStart => exact ⟨0, rfl, by omega, rfl, Keep.refl wA⟩
      case round =>
        obtain ⟨p, rfl, hp, H2, ks⟩ := hrel
        obtain ⟨c0, c1, -, -⟩ := cells2 (ks.at tA)
        by_cases hpl : p < n
        · have hpc : (p : Int) < (n : Int) := by omega
          have G2 := (kA.trans ks).at G
          have z0 : wr.cell? ⟨g, p * 2, none⟩ = some (.int .i64 (l.getD p (0, 0)).1) := by rw [cell_of_row _ _ _ _ 42 (0, 0) G2]; simpa using VB_lo l p (by rw [HN.out]; exact hpl)
          have z1 : wr.cell? ⟨g, p * 2 + 1, none⟩ = some (.int .i64 (l.getD p (0, 0)).2) := by rw [cell_of_row _ _ _ _ 42 (0, 0) G2]; simpa using VB_hi l p (by rw [HN.out]; exact hpl)
          have H3 : Hid (bdF l k (n - 0) 0 = if bdB l k p = true then true else bdF l k (n - (p + 1)) (p + 1)) := by
            have h := H2.out
            rw [show n - p = (n - (p + 1)) + 1 by omega, bdF] at h
            exact h
          have HB : Hid (bdB l k p = ((decide (p < k) && decide (a ≤ (l.getD p (0, 0)).2)) || (decide (k < p) && decide (a < (l.getD p (0, 0)).2)))) := by unfold Hid bdB; rw [Hab.out]
          obtain ⟨⟨x, y⟩, hxy⟩ : ∃ xy, l.getD p (0, 0) = xy := ⟨_, rfl⟩
          rw [hxy] at z0 z1 HB
          replace z0 : wr.cell? ⟨g, p * 2, none⟩ = some (.int .i64 x) := z0
          replace z1 : wr.cell? ⟨g, p * 2 + 1, none⟩ = some (.int .i64 y) := z1
          replace HB : Hid (bdB l k p = ((decide (p < k) && decide (a ≤ y)) || (decide (k < p) && decide (a < y)))) := HB
          clear hxy
          obtain ⟨wB, hwB, kB, tB, sB⟩ := boxed wr #[.int .i64 x, .int .i64 y] 42
          obtain ⟨p2, hp2⟩ : ∃ p2, wr.heap.size = p2 := ⟨_, rfl⟩
          rw [hp2] at tB
          replace sB : Hid _ := sB
          obtain ⟨m0, m1, -, -⟩ := cells2 (kB.at (ks.at tA))
          obtain ⟨o0, o1, -, -⟩ := cells2 tB
          rcases Nat.lt_trichotomy p k with hpk | hpk | hpk
          · have e1 : (p : Int) < (k : Int) := by omega
            by_cases hay : a ≤ y
            · have hT : Hid (bdB l k p = true) := by unfold Hid; rw [HB.out]; simp [hpk, hay]
              have hN : Hid (R = grF l (n - (k + 1)) (k + 1)) := by
                have h := H1.out
                rw [H3.out, if_pos hT.out, if_pos rfl] at h
                exact h
              go_wp2_with fail
              exact ⟨⟨k + 1, by go_num, by omega, hN, kr.trans (kA.trans (ks.trans kB))⟩, by simp [intOf]; omega⟩
            · have hT : Hid (bdB l k p = false) := by unfold Hid; rw [HB.out]; simp [hpk, hay]; try omega
              have hN : Hid (bdF l k (n - 0) 0 = bdF l k (n - (p + 1)) (p + 1)) := by
                have h := H3.out
                rw [if_neg (by rw [hT.out]; simp)] at h
                exact h
              go_wp2_with fail
              exact ⟨⟨p + 1, by go_num, by omega, hN, ks.trans kB⟩, by simp [intOf]; omega⟩
          · have e1 : ¬ (p : Int) < (k : Int) := by omega
            have e2 : ¬ (p : Int) > (k : Int) := by omega
            have hT : Hid (bdB l k p = false) := by unfold Hid; rw [HB.out]; simp [show ¬ p < k by omega, show ¬ k < p by omega]
            have hN : Hid (bdF l k (n - 0) 0 = bdF l k (n - (p + 1)) (p + 1)) := by
              have h := H3.out
              rw [if_neg (by rw [hT.out]; simp)] at h
              exact h
            clear hpk
            go_wp2_with fail
            exact ⟨⟨p + 1, by go_num, by omega, hN, ks.trans kB⟩, by simp [intOf]; omega⟩
          · have e1 : ¬ (p : Int) < (k : Int) := by omega
            have e2 : (p : Int) > (k : Int) := by omega
            by_cases hay : a < y
            · have hT : Hid (bdB l k p = true) := by unfold Hid; rw [HB.out]; simp [hpk, hay]
              have hN : Hid (R = grF l (n - (k + 1)) (k + 1)) := by
                have h := H1.out
                rw [H3.out, if_pos hT.out, if_pos rfl] at h
                exact h
              go_wp2_with fail
              exact ⟨⟨k + 1, by go_num, by omega, hN, kr.trans (kA.trans (ks.trans kB))⟩, by simp [intOf]; omega⟩
            · have hT : Hid (bdB l k p = false) := by unfold Hid; rw [HB.out]; simp [hpk, hay]; try omega
              have hN : Hid (bdF l k (n - 0) 0 = bdF l k (n - (p + 1)) (p + 1)) := by
                have h := H3.out
                rw [if_neg (by rw [hT.out]; simp)] at h
                exact h
              go_wp2_with fail
              exact ⟨⟨p + 1, by go_num, by omega, hN, ks.trans kB⟩, by simp [intOf]; omega⟩
        · have hpc : ¬ (p : Int) < (n : Int) := by omega
          have hf : Hid (R = (k, true)) := by
            have h2 := H2.out
            rw [show n - p = 0 by omega, bdF] at h2
            have h := H1.out
            rw [h2, if_neg (by simp)] at h
            exact h
          go_wp2_with fail
          go_ret2
          exact ⟨by rw [hf.out]; rfl, kr.trans (kA.trans ks)⟩
    · have hkc : ¬ (k : Int) < (n : Int) := by omega
      have hf : Hid (R = (0, false)) := by
        have h := H.out
        rw [show n - k = 0 by omega, grF] at h
        exact h
      go_wp2_with fail
      go_ret2
      exact ⟨by rw [hf.out]; rfl, kr⟩
end Go.Proofs.YtodegcobkngmlaaGreatDoor
