import Derived.Test.YtodegcobkngmlaaDoorProg
import Derived.Test.YtodegcobkngmlaaDoorH1
import Derived.WalkKit
import Derived.WalkSpells
import Derived.WalkLawsBesides
import Derived.Deep.Draws
import Derived.Deep.QuietTactic
import Derived.BigQuiet
import Derived.Laws.Externs
import Derived.Laws.CopyOwn
import Derived.Shelf.Abstract
import Derived.Deep.RegionLaw
import Derived.BigRegion
import Derived.Deep.RegionHeld3
set_option linter.unusedVariables false
set_option linter.unusedSimpArgs false
namespace Go.Proofs.YtodegcobkngmlaaDoor
open Go.RowKit Go.Shelf
attribute [local go_sem] run_store_func
/-- The first rule of some that is broken. -/
def sel : List (Int × Bool) → Int → Int → Bk
  | [], _, _ => (0, 0, 0)
  | (r, b) :: l, t, n => if b = true then sel l t n else (r, t, n)
abbrev ev (nm : ByteArray) (fa : Option Addr) (F cf : Nat) (N : Int) (ba : Option Addr) (bl cb : Nat) (ta : Option Addr) (tl ct : Nat) : Array Value := #[.string nm, .slice fa F cf, .int .i64 N, .slice ba bl cb, .slice ta tl ct]
def bsl (l : List Bool) (j : Nat) : Bool := l.getD j true
set_option maxRecDepth 100000 in
theorem ofHead_any (nm : ByteArray) (fa : Option Addr) (F cf : Nat) (N : Int) (ba : Option Addr) (bl cb : Nat) (ta : Option Addr) (tl ct : Nat) (w : World) (hT : Kt w) (hs : nm.size ≤ 281474976710656) :
    Calls Tryd.prog 22 #[.agg (ev nm fa F cf N ba bl cb ta tl ct)] w fun e w' => e = .returned (bkV (sel [(1, nameB nm), (2, winB F 1 65536)] (-1) (-1))) ∧ Keep w w' := by
  obtain ⟨w1, hw1, k1, t1, s1⟩ := boxed w (ev nm fa F cf N ba bl cb ta tl ct) 26
  obtain ⟨w2, hw2, k2, t2, s2⟩ := boxed w1 #[.int .i64 0, .int .i64 0, .int .i64 0] 54
  obtain ⟨w3, hw3, k3, t3, s3⟩ := boxed w2 #[.int .i64 1, .func (.func 38) #[] #[pv w.heap.size], .int .i64 2, .func (.func 40) #[] #[pv w.heap.size]] 92
  rw [s1] at t2 s2
  rw [s2] at t3 s3
  have q1 := k3.at (k2.at t1)
  have q2 := k3.at t2
  have hR : RdR w3 (some ⟨w.heap.size + 1 + 1, 0, none⟩) [(1, 38, #[pv w.heap.size]), (2, 40, #[pv w.heap.size])] := rdR_of t3 (by
    intro j hj
    match j, hj with
    | 0, _ => exact ⟨rfl, rfl⟩
    | 1, _ => exact ⟨rfl, rfl⟩)
  have hF := first_any (some ⟨w.heap.size + 1 + 1, 0, none⟩) 2 _ (bsl [nameB nm, winB F 1 65536]) (-1) (-1) w3 hR (by simp) (by
    intro j hj
    match j, hj with
    | 0, _ => exact hd1_ans q1 (hT.keep ((k1.trans k2).trans k3)) hs
    | 1, _ => exact hd2_ans q1)
  have HE : Hid (fsB [(1, 38, #[pv w.heap.size]), (2, 40, #[pv w.heap.size])] (bsl [nameB nm, winB F 1 65536]) (-1) (-1) = sel [(1, nameB nm), (2, winB F 1 65536)] (-1) (-1)) := rfl
  rw [HE.out] at hF
  clear HE
  generalize sel [(1, nameB nm), (2, winB F 1 65536)] (-1) (-1) = B at hF ⊢
  obtain ⟨x0, x1, x2⟩ := B
  go_enter Tryd.func22, Tryd.ntmps22
  go_wp2_with (first | rw [hw1] | rw [hw2] | rw [hw3] | (go_at_call 37; refine hF.mono ?_; rintro e w4 ⟨rfl, k4⟩; have q3 := k4.at q2; obtain ⟨c0, c1, c2, f0, f1, f2⟩ := cells3 q3))
  have h := heap3 w4 (w.heap.size + 1) (.int .i64 x0) (.int .i64 x1) (.int .i64 x2) q3
  have kk := keep3 (((k1.trans k2).trans k3).trans k4) (w.heap.size + 1) (by omega) (.int .i64 x0) (.int .i64 x1) (.int .i64 x2)
  exact bodyPost_ret (ret_bk rfl _ _ (w.heap.size + 1) _ _ _ rfl h) rfl ⟨rfl, kk⟩
set_option maxRecDepth 100000 in
theorem ofCounts_any (nm : ByteArray) (fa : Option Addr) (F cf : Nat) (N : Int) (ba : Option Addr) (bl cb : Nat) (ta : Option Addr) (tl ct : Nat) (w : World) :
    Calls Tryd.prog 24 #[.agg (ev nm fa F cf N ba bl cb ta tl ct)] w fun e w' => e = .returned (bkV (sel [(5, winB N 1 64), (6, (bl : Int) == N), (7, decide ((tl : Int) ≤ 65536))] (-1) (-1))) ∧ Keep w w' := by
  obtain ⟨w1, hw1, k1, t1, s1⟩ := boxed w (ev nm fa F cf N ba bl cb ta tl ct) 26
  obtain ⟨w2, hw2, k2, t2, s2⟩ := boxed w1 #[.int .i64 0, .int .i64 0, .int .i64 0] 54
  obtain ⟨w3, hw3, k3, t3, s3⟩ := boxed w2 #[.int .i64 5, .func (.func 44) #[] #[pv w.heap.size], .int .i64 6, .func (.func 45) #[] #[pv w.heap.size], .int .i64 7, .func (.func 46) #[] #[pv w.heap.size]] 92
  rw [s1] at t2 s2
  rw [s2] at t3 s3
  have q1 := k3.at (k2.at t1)
  have q2 := k3.at t2
  have hR : RdR w3 (some ⟨w.heap.size + 1 + 1, 0, none⟩) [(5, 44, #[pv w.heap.size]), (6, 45, #[pv w.heap.size]), (7, 46, #[pv w.heap.size])] := rdR_of t3 (by
    intro j hj
    match j, hj with
    | 0, _ => exact ⟨rfl, rfl⟩
    | 1, _ => exact ⟨rfl, rfl⟩
    | 2, _ => exact ⟨rfl, rfl⟩)
  have hF := first_any (some ⟨w.heap.size + 1 + 1, 0, none⟩) 3 _ (bsl [winB N 1 64, (bl : Int) == N, decide ((tl : Int) ≤ 65536)]) (-1) (-1) w3 hR (by simp) (by
    intro j hj
    match j, hj with
    | 0, _ => exact ct1_ans q1
    | 1, _ => exact ct2_ans q1
    | 2, _ => exact ct3_ans q1)
  have HE : Hid (fsB [(5, 44, #[pv w.heap.size]), (6, 45, #[pv w.heap.size]), (7, 46, #[pv w.heap.size])] (bsl [winB N 1 64, (bl : Int) == N, decide ((tl : Int) ≤ 65536)]) (-1) (-1) = sel [(5, winB N 1 64), (6, (bl : Int) == N), (7, decide ((tl : Int) ≤ 65536))] (-1) (-1)) := rfl
  rw [HE.out] at hF
  clear HE
  generalize sel [(5, winB N 1 64), (6, (bl : Int) == N), (7, decide ((tl : Int) ≤ 65536))] (-1) (-1) = B at hF ⊢
  obtain ⟨x0, x1, x2⟩ := B
  go_enter Tryd.func24, Tryd.ntmps24
  go_wp2_with (first | rw [hw1] | rw [hw2] | rw [hw3] | (go_at_call 37; refine hF.mono ?_; rintro e w4 ⟨rfl, k4⟩; have q3 := k4.at q2; obtain ⟨c0, c1, c2, f0, f1, f2⟩ := cells3 q3))
  have h := heap3 w4 (w.heap.size + 1) (.int .i64 x0) (.int .i64 x1) (.int .i64 x2) q3
  have kk := keep3 (((k1.trans k2).trans k3).trans k4) (w.heap.size + 1) (by omega) (.int .i64 x0) (.int .i64 x1) (.int .i64 x2)
  exact bodyPost_ret (ret_bk rfl _ _ (w.heap.size + 1) _ _ _ rfl h) rfl ⟨rfl, kk⟩
end Go.Proofs.YtodegcobkngmlaaDoor
