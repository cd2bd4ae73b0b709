import Derived.Test.YtinjikoocegooaaGreatDoorProg
import Derived.Test.YtinjikoocegooaaGreatDoorG4
import Derived.Test.YtinjikoocegooaaGreatDoorP3
import Derived.WalkKit
import Derived.WalkSpells
import Derived.WalkLawsBesides
import Derived.Deep.Draws
import Derived.Deep.QuietTactic
import Derived.BigQuiet
import Derived.Laws.Externs
import Derived.Laws.CopyOwn
import Derived.Shelf.Abstract
import Derived.Deep.RegionLaw
import Derived.BigRegion
import Derived.Deep.RegionHeld3
import Derived.RangeFuncBox
import Derived.RangeFuncLeaves
import Derived.RangeFuncCalls
import Derived.RangeFuncRecord
import Derived.Below
import Derived.OwnWalkIn
import Derived.TacticsInMore
import Derived.LoopNIn
import Derived.LoopIn
import Derived.Sort.LoopGhostIn
import Derived.Deep.RegionWith
import Derived.Stop.RegionWithIn
import Derived.Laws.MathBits
import Derived.Maps.OwnSet
import Derived.StringKeys
import Derived.RegionTactic
import Derived.Orders
import Derived.OrdersIn
import Derived.RegionIn
set_option linter.unusedVariables false
set_option linter.unusedSimpArgs false
namespace Go.Proofs.YtinjikoocegooaaGreatDoor
open Go.RowKit Go.Shelf
attribute [local go_sem] run_store_func run_store_float
def aks : List Nat := [36, 37, 38, 39, 40]
def chF (bs : Nat → Bk) : Nat → Nat → Bk
  | 0, _ => (0, 0, 0)
  | f + 1, k => if (bs k).1 = 0 then chF bs f (k + 1) else bs k
theorem aks_run : ∀ k, k < 5 → ∀ (v : Value) (wx : World), (callFunc (aks.getD k 0) #[v]).run Tryz.prog wx = .ok (.enter (aks.getD k 0) #[v]) wx := by
  intro k hk v wx
  match k, hk with
  | 0, _ => exact (show (callFunc 36 #[v]).run Tryz.prog wx = .ok (.enter 36 #[v]) wx by kernel_rfl)
  | 1, _ => exact (show (callFunc 37 #[v]).run Tryz.prog wx = .ok (.enter 37 #[v]) wx by kernel_rfl)
  | 2, _ => exact (show (callFunc 38 #[v]).run Tryz.prog wx = .ok (.enter 38 #[v]) wx by kernel_rfl)
  | 3, _ => exact (show (callFunc 39 #[v]).run Tryz.prog wx = .ok (.enter 39 #[v]) wx by kernel_rfl)
  | 4, _ => exact (show (callFunc 40 #[v]).run Tryz.prog wx = .ok (.enter 40 #[v]) wx by kernel_rfl)
set_option maxRecDepth 100000 in
set_option maxHeartbeats 2000000 in
theorem Check_gen (nm : ByteArray) (fa : Option Addr) (Fn cf : Nat) (N : Int) (ba : Option Addr) (bl cb : Nat) (ta : Option Addr) (tl ct : Nat) (bs : Nat → Bk) (w : World) (hz : ∀ j, (bs j).1 = 0 → bs j = (0, 0, 0))
    (hC : ∀ j, j < 5 → (∀ i, i < j → (bs i).1 = 0) → ∀ wx, Keep w wx → Calls Tryz.prog (aks.getD j 0) #[.agg (ev nm fa Fn cf N ba bl cb ta tl ct)] wx fun e w' => e = .returned (bkV (bs j)) ∧ Keep wx w') :
    Calls Tryz.prog 15 #[.agg (ev nm fa Fn cf N ba bl cb ta tl ct)] w fun e w' => e = .returned (bkV (chF bs 5 0)) ∧ Keep w w' := by
  obtain ⟨B, HB⟩ : ∃ B, Hid (B = chF bs 5 0) := ⟨_, rfl⟩
  rw [← HB.out]
  obtain ⟨w1, hw1, k1, t1, s1⟩ := boxed w (ev nm fa Fn cf N ba bl cb ta tl ct) 26
  obtain ⟨w2, hw2, k2, t2, s2⟩ := boxed w1 #[.int .i64 0, .int .i64 0, .int .i64 0] 58
  rw [s1] at t2 s2
  obtain ⟨w3, hw3, k3, t3, s3⟩ := boxed w2 #[.func (.func 36) #[] #[], .func (.func 37) #[] #[], .func (.func 38) #[] #[], .func (.func 39) #[] #[], .func (.func 40) #[] #[]] 59
  rw [s2] at t3 s3
  have kw3 := k1.trans (k2.trans k3)
  have q1 := (k2.trans k3).at t1
  have q2 := k3.at t2
  have hA : Hid (∀ k, k < 5 → ∀ wr, Keep w3 wr → wr.cell? ⟨w.heap.size + 1 + 1, k, none⟩ = some (.func (.func (aks.getD k 0)) #[] #[])) := by
    intro k hk wr kr
    rw [cell_of_row _ _ k _ 59 (0, 0) (kr.at t3)]
    match k, hk with
    | 0, _ => rfl
    | 1, _ => rfl
    | 2, _ => rfl
    | 3, _ => rfl
    | 4, _ => rfl
  clear t3
  go_enter Tryz.func15, Tryz.ntmps15
  go_wp2_with (first | rw [hw1] | rw [hw2] | rw [hw3])
  go_loopw [8] (fun i wr => ∃ k : Nat, i = .int .i64 (k : Int) ∧ k ≤ 5 ∧ Hid (B = chF bs (5 - k) k) ∧ Hid (∀ i, i < k → (bs i).1 = 0) ∧ Keep w3 wr) (fun i wr => 5 - (intOf i).toNat)
  case atStart => exact ⟨0, rfl, by omega, HB, fun i hi => by omega, Keep.refl _⟩
  case round =>
    obtain ⟨k, rfl, hk, H, HP, kr⟩ := hrel
    by_cases hlt : k < 5
    · have hltc : (k : Int) < 5 := by omega
      have x0 := hA.out k hlt wr kr
      obtain ⟨c0, c1, c2, c3, c4⟩ := cells5 (kr.at q1)
      have hc := hC k hlt HP.out wr (kw3.trans kr)
      have hE := aks_run k hlt (.agg (ev nm fa Fn cf N ba bl cb ta tl ct)) wr
      have H1 : Hid (chF bs (5 - k) k = if (bs k).1 = 0 then chF bs (5 - (k + 1)) (k + 1) else bs k) := by
        rw [show 5 - k = (5 - (k + 1)) + 1 by omega, chF]; rfl
      have HK : Hid (k < 5) := hlt
      have HZ : Hid ((bs k).1 = 0 → bs k = (0, 0, 0)) := hz k
      have HN : Hid ((bs k).1 = 0 → ∀ i, i < k + 1 → (bs i).1 = 0) := fun h i hi => by
        by_cases e : i = k
        · rw [e]; exact h
        · exact HP.out i (by omega)
      clear hlt
      replace hE : Hid _ := hE
      generalize bs k = S at hc H1 HZ HN
      generalize aks.getD k 0 = fn at x0 hc hE
      by_cases hS : S.1 = 0
      · obtain rfl := HZ.out hS
        have HN2 : Hid (∀ i, i < k + 1 → (bs i).1 = 0) := HN.out rfl
        clear hS HN HZ
        change Calls Tryz.prog fn _ wr (fun e w' => e = .returned (.agg #[.int .i64 0, .int .i64 0, .int .i64 0]) ∧ Keep wr w') at hc
        go_wp2_with fail
        rw [hE.out, Oper.upon_enter]
        refine hc.mono ?_
        rintro e w5 ⟨rfl, k5⟩
        obtain ⟨w9, wA, hw9, hwA, kA, tA, a0, a1, a2, g0, g1, g2⟩ := boxB w5 (.int .i64 0) (.int .i64 0) (.int .i64 0)
        obtain ⟨d0, d1, d2, -, -, -⟩ := cells3 tA
        go_wp2_with fail
        go_roundw
        case rel => exact ⟨k + 1, by go_num, by have := HK.out; omega, by unfold Hid; rw [H.out, H1.out, if_pos trivial], HN2, kr.trans (k5.trans kA)⟩
        case measure => have := HK.out; simp [intOf]; omega
      · obtain ⟨e0, e1, e2⟩ := S
        have hSc : (e0 != 0) = true := by simpa using hS
        have H2 : Hid (B = (e0, e1, e2)) := by unfold Hid; rw [H.out, H1.out, if_neg hS]
        clear hS HN HZ
        go_wp2_with fail
        rw [hE.out, Oper.upon_enter]
        refine hc.mono ?_
        rintro e w5 ⟨rfl, k5⟩
        obtain ⟨w9, wA, hw9, hwA, kA, tA, a0, a1, a2, g0, g1, g2⟩ := boxB w5 (.int .i64 e0) (.int .i64 e1) (.int .i64 e2)
        obtain ⟨d0, d1, d2, -, -, -⟩ := cells3 tA
        have k3A := kr.trans (k5.trans kA)
        have qA := k3A.at q2
        obtain ⟨y0, y1, y2, p0, p1, p2⟩ := cells3 qA
        go_wp2_with fail
        have h := heap3 wA (w.heap.size + 1) (.int .i64 e0) (.int .i64 e1) (.int .i64 e2) qA
        have kk := keep3 (kw3.trans k3A) (w.heap.size + 1) (by omega) (.int .i64 e0) (.int .i64 e1) (.int .i64 e2)
        refine bodyPost_ret (ret_bk rfl _ _ (w.heap.size + 1) _ _ _ rfl h) rfl ⟨?_, kk⟩
        rw [H2.out]
    · have hltc : ¬ (k : Int) < 5 := by omega
      have H1 : Hid (B = (0, 0, 0)) := by unfold Hid; rw [H.out, show 5 - k = 0 by omega]; rfl
      have qA := kr.at q2
      obtain ⟨c0, c1, c2, f0, f1, f2⟩ := cells3 qA
      clear hlt
      go_wp2_with fail
      have h := heap3 wr (w.heap.size + 1) (.int .i64 0) (.int .i64 0) (.int .i64 0) qA
      have kk := keep3 (kw3.trans kr) (w.heap.size + 1) (by omega) (.int .i64 0) (.int .i64 0) (.int .i64 0)
      refine bodyPost_ret (ret_bk rfl _ _ (w.heap.size + 1) _ _ _ rfl h) rfl ⟨?_, kk⟩
      rw [H1.out]
end Go.Proofs.YtinjikoocegooaaGreatDoor
set_option linter.unusedVariables false
set_option linter.unusedSimpArgs false
namespace Go.Proofs.YtinjikoocegooaaGreatDoor
open Go.RowKit Go.Shelf
def hdS (nm : ByteArray) (F : Nat) : Bk := sel [(1, nameB nm), (2, winB F 1 65536)] (-1) (-1)
def ctS (N : Int) (bl tl : Nat) : Bk := sel [(5, winB N 1 64), (6, (bl : Int) == N), (7, decide ((tl : Int) ≤ 65536))] (-1) (-1)
/-- The parts of Check. -/
def bsC (nm : ByteArray) (fs : List ByteArray) (N : Int) (base : List Int) (ts : List (Int × List Nd)) : Nat → Bk
  | 0 => hdS nm fs.length
  | 1 => ftB fs
  | 2 => ctS N base.length ts.length
  | 3 => tsB N fs.length ts
  | _ => ouB base ts
def chB (nm : ByteArray) (fs : List ByteArray) (N : Int) (base : List Int) (ts : List (Int × List Nd)) : Bk := chF (bsC nm fs N base ts) 5 0
theorem hd_ok {nm : ByteArray} {F : Nat} (h : (hdS nm F).1 = 0) : nameB nm = true ∧ winB F 1 65536 = true := by
  unfold hdS at h
  rw [sel] at h
  split at h
  · rename_i h1
    rw [sel] at h
    split at h
    · rename_i h2; exact ⟨h1, h2⟩
    · cases h
  · cases h
theorem ct_ok {N : Int} {bl tl : Nat} (h : (ctS N bl tl).1 = 0) : winB N 1 64 = true ∧ (bl : Int) = N ∧ tl ≤ 65536 := by
  unfold ctS at h
  rw [sel] at h
  split at h
  · rename_i h1
    rw [sel] at h
    split at h
    · rename_i h2
      rw [sel] at h
      split at h
      · rename_i h3; exact ⟨h1, by simpa using h2, by have := of_decide_eq_true h3; omega⟩
      · cases h
    · cases h
  · cases h
theorem win_ok {n lo hi : Int} (h : winB n lo hi = true) : lo ≤ n ∧ n ≤ hi := by unfold winB at h; simpa using h
theorem ftF_zero {fs : List ByteArray} : ∀ (f k : Nat), (ftF fs f k).1 = 0 → ftF fs f k = (0, 0, 0)
  | 0, k, _ => rfl
  | f + 1, k, h => by
    rw [ftF] at h ⊢
    split at h
    · rename_i h1
      rw [if_pos h1]
      split at h
      · cases h
      · rename_i h2; rw [if_neg h2]; exact ftF_zero f (k + 1) h
    · cases h
theorem tsF_zero {N F : Int} {ts : List (Int × List Nd)} : ∀ (f k : Nat), (tsF N F ts f k).1 = 0 → tsF N F ts f k = (0, 0, 0)
  | 0, k, _ => rfl
  | f + 1, k, h => by
    rw [tsF] at h ⊢
    split at h
    · rename_i h1; rw [if_pos h1]; exact tsF_zero f (k + 1) h
    · rename_i h1; exact absurd h h1
theorem ouF_zero {base : List Int} {ts : List (Int × List Nd)} : ∀ (f k : Nat), (ouF base ts f k).1 = 0 → ouF base ts f k = (0, 0, 0)
  | 0, k, _ => rfl
  | f + 1, k, h => by
    rw [ouF] at h ⊢
    split at h
    · rename_i h1; rw [if_pos h1]; exact ouF_zero f (k + 1) h
    · cases h
theorem bsC_zero (nm : ByteArray) (fs : List ByteArray) (N : Int) (base : List Int) (ts : List (Int × List Nd)) : ∀ j, (bsC nm fs N base ts j).1 = 0 → bsC nm fs N base ts j = (0, 0, 0)
  | 0, h => sel_zero _ _ _ h (by intro x hx; simp at hx; rcases hx with rfl | rfl <;> simp)
  | 1, h => ftF_zero _ _ h
  | 2, h => sel_zero _ _ _ h (by intro x hx; simp at hx; rcases hx with rfl | rfl | rfl <;> simp)
  | 3, h => tsF_zero _ _ h
  | _ + 4, h => ouF_zero _ _ h
/-- An ensemble that can be read. -/
structure EnA (w : World) (nm : ByteArray) (fa : Option Addr) (fs : List ByteArray) (ba : Option Addr) (base : List Int) (ta : Option Addr) (ts : List (Int × List Nd)) : Prop where
  tb : Kt w
  ns : nm.size ≤ 281474976710656
  rf : RdS w fa fs
  fl : fs.length ≤ 8796093022208
  fz : ∀ j, j < fs.length → (fs.getD j ByteArray.empty).size ≤ 281474976710656
  er : EnR w ba base ta ts
theorem EnA.keep {w w' : World} {nm : ByteArray} {fa : Option Addr} {fs : List ByteArray} {ba : Option Addr} {base : List Int} {ta : Option Addr} {ts : List (Int × List Nd)} (h : EnA w nm fa fs ba base ta ts) (k : Keep w w') : EnA w' nm fa fs ba base ta ts := ⟨h.tb.keep k, h.ns, h.rf.keep k, h.fl, h.fz, h.er.keep k⟩
theorem Check_any (nm : ByteArray) (fa : Option Addr) (fs : List ByteArray) (cf : Nat) (N : Int) (ba : Option Addr) (base : List Int) (cb : Nat) (ta : Option Addr) (ts : List (Int × List Nd)) (ct : Nat) (w : World) (h : EnA w nm fa fs ba base ta ts) :
    Calls Tryz.prog 15 #[.agg (ev nm fa fs.length cf N ba base.length cb ta ts.length ct)] w fun e w' => e = .returned (bkV (chB nm fs N base ts)) ∧ Keep w w' := by
  refine Check_gen nm fa fs.length cf N ba base.length cb ta ts.length ct (bsC nm fs N base ts) w (bsC_zero nm fs N base ts) ?_
  intro j hj hp wx k
  have hx := h.keep k
  match j, hj, hp with
  | 0, _, _ => exact ofHead_any nm fa fs.length cf N ba base.length cb ta ts.length ct wx hx.tb hx.ns
  | 1, _, hp =>
    have h0 := win_ok (hd_ok (hp 0 (by omega))).2
    exact ofFeatures_any nm fa fs cf N ba base.length cb ta ts.length ct wx hx.tb hx.rf (by omega) hx.fz
  | 2, _, _ => exact ofCounts_any nm fa fs.length cf N ba base.length cb ta ts.length ct wx
  | 3, _, hp =>
    have h0 := win_ok (hd_ok (hp 0 (by omega))).2
    have h2 := win_ok (ct_ok (hp 2 (by omega))).1
    exact ofTrees_any nm fa fs.length cf N ba base.length cb ta ts ct wx ⟨by omega, by omega⟩ (by omega) hx.er.tl hx.er.tn hx.er.rt
  | 4, _, hp =>
    have h2 := (ct_ok (hp 2 (by omega))).2.1
    subst h2
    exact ofOutputs_any nm fa fs.length cf ba base cb ta ts ct wx hx.er
set_option maxRecDepth 100000 in
theorem Valid_any (nm : ByteArray) (fa : Option Addr) (fs : List ByteArray) (cf : Nat) (N : Int) (ba : Option Addr) (base : List Int) (cb : Nat) (ta : Option Addr) (ts : List (Int × List Nd)) (ct : Nat) (w : World) (h : EnA w nm fa fs ba base ta ts) :
    Calls Tryz.prog 5 #[.agg (ev nm fa fs.length cf N ba base.length cb ta ts.length ct)] w fun e w' => e = .returned (.bool ((chB nm fs N base ts).1 == 0)) ∧ Keep w w' := by
  obtain ⟨w1, hw1, k1, t1, s1⟩ := boxed w (ev nm fa fs.length cf N ba base.length cb ta ts.length ct) 26
  obtain ⟨z0, z1, z2, z3, z4⟩ := cells5 t1
  have hC := Check_any nm fa fs cf N ba base cb ta ts ct w1 (h.keep k1)
  generalize chB nm fs N base ts = B at hC ⊢
  obtain ⟨e0, e1, e2⟩ := B
  have hfd : ∀ wx : World, (Instr.field 58 (.agg #[.int .i64 e0, .int .i64 e1, .int .i64 e2]) 0).run Tryz.prog wx = .ok (.int .i64 e0) wx := fun wx => by kernel_rfl
  change Calls Tryz.prog 15 _ w1 (fun e w' => e = .returned (.agg #[.int .i64 e0, .int .i64 e1, .int .i64 e2]) ∧ Keep w1 w') at hC
  go_enter Tryz.func5, Tryz.ntmps5
  go_wp2_with (first | rw [hw1] | (go_at_call 15; refine hC.mono ?_; rintro e w2 ⟨rfl, k2⟩))
  go_ret
  exact ⟨rfl, k1.trans k2⟩
end Go.Proofs.YtinjikoocegooaaGreatDoor
