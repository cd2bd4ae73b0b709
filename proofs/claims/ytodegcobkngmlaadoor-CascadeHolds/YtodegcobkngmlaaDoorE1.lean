import Derived.Test.YtodegcobkngmlaaDoorProg
import Derived.Test.YtodegcobkngmlaaDoorD6
import Derived.Test.YtodegcobkngmlaaDoorYX4
import Derived.WalkKit
import Derived.WalkSpells
import Derived.WalkLawsBesides
import Derived.Deep.Draws
import Derived.Deep.QuietTactic
import Derived.BigQuiet
import Derived.Laws.Externs
import Derived.Laws.CopyOwn
import Derived.Shelf.Abstract
import Derived.Deep.RegionLaw
import Derived.BigRegion
import Derived.Deep.RegionHeld3
import Derived.RangeFuncBox
import Derived.RangeFuncLeaves
import Derived.RangeFuncCalls
import Derived.RangeFuncRecord
import Derived.Below
import Derived.OwnWalkIn
import Derived.TacticsInMore
import Derived.LoopNIn
import Derived.LoopIn
import Derived.Sort.LoopGhostIn
import Derived.Deep.RegionWith
import Derived.Stop.RegionWithIn
set_option linter.unusedVariables false
set_option linter.unusedSimpArgs false
namespace Go.Proofs.YtodegcobkngmlaaDoor
open Go.RowKit Go.Shelf
attribute [local go_sem] run_store_func run_store_float
theorem tnF_zero {L : List Nd} {F t : Int} : ∀ (f k : Nat), (tnF L F t f k).1 = 0 → tnF L F t f k = (0, 0, 0)
  | 0, k, _ => rfl
  | f + 1, k, h => by
    rw [tnF] at h ⊢
    split at h
    · rename_i hs; rw [if_pos hs]; exact tnF_zero f (k + 1) h
    · rename_i hs; exact absurd h hs
theorem trB_zero {out N F : Int} {L : List Nd} {t : Int} (h : (trB out N F L t).1 = 0) : trB out N F L t = (0, 0, 0) := by
  unfold trB at h ⊢
  split at h
  · rename_i h1
    rw [if_pos h1]
    split at h
    · rename_i h2; rw [if_pos h2]; exact sel_zero _ _ _ h (by intro x hx; simp at hx; rcases hx with rfl; simp)
    · rename_i h2; exact absurd h h2
  · rename_i h1; exact absurd h h1
/-- The trees' rules, one by one. -/
def tsF (N F : Int) (ts : List (Int × List Nd)) : Nat → Nat → Bk
  | 0, _ => (0, 0, 0)
  | f + 1, k => if (trB (ts.getD k (0, [])).1 N F (ts.getD k (0, [])).2 (k : Int)).1 = 0 then tsF N F ts f (k + 1) else trB (ts.getD k (0, [])).1 N F (ts.getD k (0, [])).2 (k : Int)
def tsB (N F : Int) (ts : List (Int × List Nd)) : Bk := tsF N F ts ts.length 0
set_option maxRecDepth 100000 in
set_option maxHeartbeats 2000000 in
theorem ofTrees_any (nm : ByteArray) (fa : Option Addr) (Fn cf : Nat) (N : Int) (ba : Option Addr) (bl cb : Nat) (ta : Option Addr) (ts : List (Int × List Nd)) (ct : Nat) (w : World) (hN : 0 ≤ N ∧ N ≤ 4611686018427387904) (hF : (Fn : Int) ≤ 4611686018427387904) (htl : ts.length ≤ 4398046511104) (hts : ∀ j, j < ts.length → (ts.getD j (0, [])).2.length ≤ 1759218604441) (ht : RdT w ta ts) :
    Calls Tryd.prog 25 #[.agg (ev nm fa Fn cf N ba bl cb ta ts.length ct)] w fun e w' => e = .returned (bkV (tsB N Fn ts)) ∧ Keep w w' := by
  obtain ⟨B, HB⟩ : ∃ B, Hid (B = tsF N Fn ts ts.length 0) := ⟨_, rfl⟩
  have HG : Hid (tsB N Fn ts = B) := HB.out.symm
  rw [HG.out]
  clear HG
  obtain ⟨w1, hw1, k1, t1, s1⟩ := boxed w (ev nm fa Fn cf N ba bl cb ta ts.length ct) 26
  obtain ⟨w2, hw2, k2, t2, s2⟩ := boxed w1 #[.int .i64 0, .int .i64 0, .int .i64 0] 54
  rw [s1] at t2 s2
  have kw2 := k1.trans k2
  have q1 := k2.at t1
  obtain ⟨z0, z1, z2, z3, z4⟩ := cells5 q1
  go_enter Tryd.func25, Tryd.ntmps25
  go_wp2_with (first | rw [hw1] | rw [hw2])
  clear z0 z1 z2 z3 z4
  go_loopw [9] (fun i wr => ∃ k : Nat, i = .int .i64 (k : Int) ∧ k ≤ ts.length ∧ Hid (B = tsF N Fn ts (ts.length - k) k) ∧ Keep w2 wr) (fun i wr => ts.length - (intOf i).toNat)
  case atStart => exact ⟨0, rfl, by omega, HB, Keep.refl _⟩
  case round =>
    obtain ⟨k, rfl, hk, H, kr⟩ := hrel
    by_cases hlt : k < ts.length
    · have hltc : (k : Int) < (ts.length : Int) := by omega
      have hl := hts k hlt
      obtain ⟨b, o, na, nc, rfl, x0, x1, hrn, hcp⟩ := ht k hlt
      have kwr := kw2.trans kr
      replace x0 := kwr.cell x0
      replace x1 := kwr.cell x1
      have H1 : Hid (tsF N Fn ts (ts.length - k) k = if (trB (ts.getD k (0, [])).1 N Fn (ts.getD k (0, [])).2 (k : Int)).1 = 0 then tsF N Fn ts (ts.length - (k + 1)) (k + 1) else trB (ts.getD k (0, [])).1 N Fn (ts.getD k (0, [])).2 (k : Int)) := by
        rw [show ts.length - k = (ts.length - (k + 1)) + 1 by omega, tsF]; rfl
      have HK : Hid (k < ts.length) := hlt
      clear hlt hcp
      generalize ts.getD k (0, []) = tk at x0 x1 hrn H1 hl
      obtain ⟨out, L⟩ := tk
      simp only at x0 x1 hrn H1 hl
      obtain ⟨w3, hw3, k3, t3, s3⟩ := boxed wr #[.int .i64 out, .slice na L.length nc] 46
      obtain ⟨y0, y1, -, -⟩ := cells2 t3
      obtain ⟨z0, z1, z2, z3, z4⟩ := cells5 (k3.at (kr.at q1))
      have hT := ofTree_any nm fa Fn cf N ba bl cb (some ⟨b, o, none⟩) ts.length ct out na nc L (k : Int) w3 hN hF hl (hrn.keep (kwr.trans k3))
      have Hz : Hid ((trB out N Fn L (k : Int)).1 = 0 → trB out N Fn L (k : Int) = (0, 0, 0)) := trB_zero
      generalize trB out N Fn L (k : Int) = S at hT H1 Hz
      by_cases hS : S.1 = 0
      · obtain rfl := Hz.out hS
        clear hS Hz
        change Calls Tryd.prog 47 _ w3 (fun e w' => e = .returned (.agg #[.int .i64 0, .int .i64 0, .int .i64 0]) ∧ Keep w3 w') at hT
        go_wp2_with (first
          | (go_at_call 47; refine hT.mono ?_; rintro e wB ⟨rfl, kB⟩
             obtain ⟨wC, wD, hwC, hwD, kD, tD, a0, a1, a2, g0, g1, g2⟩ := boxB wB (.int .i64 0) (.int .i64 0) (.int .i64 0)
             obtain ⟨c0, c1, c2, -, -, -⟩ := cells3 tD))
        go_roundw
        case rel => exact ⟨k + 1, by go_num, by have := HK.out; omega, by unfold Hid; rw [H.out, H1.out, if_pos trivial], kr.trans (k3.trans (kB.trans kD))⟩
        case measure => have := HK.out; simp [intOf]; omega
      · obtain ⟨e0, e1, e2⟩ := S
        have hSc : (e0 != 0) = true := by simpa using hS
        have H2 : Hid (B = (e0, e1, e2)) := by unfold Hid; rw [H.out, H1.out, if_neg hS]
        clear hS Hz
        go_wp2_with (first
          | (go_at_call 47; refine hT.mono ?_; rintro e wB ⟨rfl, kB⟩
             obtain ⟨wC, wD, hwC, hwD, kD, tD, a0, a1, a2, g0, g1, g2⟩ := boxB wB (.int .i64 e0) (.int .i64 e1) (.int .i64 e2)
             obtain ⟨c0, c1, c2, -, -, -⟩ := cells3 tD
             have k2D := kr.trans (k3.trans (kB.trans kD))
             have qD := k2D.at t2
             obtain ⟨d0, d1, d2, p0, p1, p2⟩ := cells3 qD))
        have h := heap3 wD (w.heap.size + 1) (.int .i64 e0) (.int .i64 e1) (.int .i64 e2) qD
        have kk := keep3 (kw2.trans k2D) (w.heap.size + 1) (by omega) (.int .i64 e0) (.int .i64 e1) (.int .i64 e2)
        refine bodyPost_ret (ret_bk rfl _ _ (w.heap.size + 1) _ _ _ rfl h) rfl ⟨?_, kk⟩
        rw [H2.out]
    · have hltc : ¬ (k : Int) < (ts.length : Int) := by omega
      have H1 : Hid (B = (0, 0, 0)) := by unfold Hid; rw [H.out, show ts.length - k = 0 by omega]; rfl
      have q2 := kr.at t2
      obtain ⟨c0, c1, c2, f0, f1, f2⟩ := cells3 q2
      clear hlt
      go_wp2_with fail
      have h := heap3 wr (w.heap.size + 1) (.int .i64 0) (.int .i64 0) (.int .i64 0) q2
      have kk := keep3 (kw2.trans kr) (w.heap.size + 1) (by omega) (.int .i64 0) (.int .i64 0) (.int .i64 0)
      refine bodyPost_ret (ret_bk rfl _ _ (w.heap.size + 1) _ _ _ rfl h) rfl ⟨?_, kk⟩
      rw [H1.out]
end Go.Proofs.YtodegcobkngmlaaDoor
