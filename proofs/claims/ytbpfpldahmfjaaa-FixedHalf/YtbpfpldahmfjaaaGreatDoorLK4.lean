import Derived.Test.YtbpfpldahmfjaaaGreatDoorProg
import Derived.Test.YtbpfpldahmfjaaaGreatDoorLK3
import Derived.WalkKit
import Derived.WalkSpells
import Derived.WalkLawsBesides
import Derived.Laws.CopyOwn
import Derived.Deep.Draws
import Derived.Deep.QuietTactic
import Derived.BigQuiet
import Derived.Laws.MathBits
import Derived.Laws.BytesArg
import Derived.Lib.OthersKept
import Derived.Deep.RegionWith
import Derived.WalkMore
import Derived.Deep.LoopGhost
import Derived.Deep.RegionHeld3
set_option linter.unusedVariables false
set_option linter.unusedSimpArgs false
namespace Go.Proofs.YtbpfpldahmfjaaaGreatDoor.Li
open Go.RowKit Lb
set_option maxRecDepth 100000 in
set_option maxHeartbeats 1600000 in
theorem Times_form (n1 n2 : Bool) (a b c d : Option Addr) (ca cb cc cd : Nat) (la lb lc ld : List Nat) (w : World) (hA : Arg2 w a ca la b cb lb) (hB : Arg2 w c cc lc d cd ld) :
    Calls Tryz.prog 13 #[.agg #[.bool n1, .slice a la.length ca, .slice b lb.length cb], .agg #[.bool n2, .slice c lc.length cc, .slice d ld.length cd]] w fun e w' => RatF w w' e (n1 != n2) (val la * val lc) (val lb * val ld) := by
  obtain ⟨W, hW, B1, B2, B3, kW, hsz⟩ := lay3 w (.bool n1) (.slice a la.length ca) (.slice b lb.length cb) (.bool n2) (.slice c lc.length cc) (.slice d ld.length cd) (.bool false) (.slice none 0 0) (.slice none 0 0)
  have M1 := fun wx (hk : Keep w wx) => Mul_any a c ca cc la lc wx hA.hca hB.hca (by have := hA.hla; omega) (by have := hB.hla; omega) (hA.hra.keep hk) (hB.hra.keep hk) hA.hma hB.hma
  have M2 := fun wx (hk : Keep w wx) => Mul_any b d cb cd lb ld wx hA.hcb hB.hcb (by have := hA.hlb; omega) (by have := hB.hlb; omega) (hA.hrb.keep hk) (hB.hrb.keep hk) hA.hmb hB.hmb
  have q1 := hA.hla
  have q2 := hA.hlb
  have q3 := hB.hla
  have q4 := hB.hlb
  go_enter Tryz.func13, Tryz.ntmps13
  go_wp2_with fail
  rw [← hW]
  clear hW
  obtain ⟨x0, x1, x2⟩ := B1.cells
  obtain ⟨x3, x4, x5⟩ := B2.cells
  have Bd : Box W.drew (w.heap.size + 1 + 1) (.bool false) (.slice none 0 0) (.slice none 0 0) := B3
  have kd : Keep w W.drew := kW.drew
  have hgw : w.heap.size ≤ w.heap.size + 1 + 1 := by omega
  obtain ⟨g, hg⟩ : ∃ g, w.heap.size = g := ⟨_, rfl⟩
  rw [hg] at x0 x1 x2 x3 x4 x5 Bd
  rw [show w.heap.size + 1 + 1 = g + 1 + 1 by omega] at hgw
  rw [hg]
  clear hg
  have hn1 : ¬ (g = g + 1 + 1) := by omega
  have hn2 : ¬ (g + 1 + 1 = g) := by omega
  go_region_held3 (fun w' => w'.cell? ⟨g, 0, none⟩ = some (Value.bool n1) ∧ w'.cell? ⟨g, 1, none⟩ = some (Value.slice a la.length ca) ∧ w'.cell? ⟨g, 2, none⟩ = some (Value.slice b lb.length cb) ∧ w'.cell? ⟨g + 1, 0, none⟩ = some (Value.bool n2) ∧ w'.cell? ⟨g + 1, 1, none⟩ = some (Value.slice c lc.length cc) ∧ w'.cell? ⟨g + 1, 2, none⟩ = some (Value.slice d ld.length cd)) (go_keep) (first
    | (go_at_call_of 31 (Value.slice a la.length ca); refine (M1 _ ?_).mono ?_; exact kd; rintro e wA ⟨vA, rfl, nA, kA⟩; obtain ⟨aA, cA, lA, rfl, hcA, rA, mA, pA, eA, -⟩ := nA.natR.shape; have jA := mul_few hA.hma hB.hma pA eA; have k1 := kd.trans kA; have BA := Bd.keep kA; have s0 := Keep.cell kA x0; have s1 := Keep.cell kA x1; have s2 := Keep.cell kA x2; have s3 := Keep.cell kA x3; have s4 := Keep.cell kA x4; have s5 := Keep.cell kA x5)
    | (go_at_call_of 31 (Value.slice b lb.length cb); refine (M2 _ ?_).mono ?_; exact k1; rintro e wB ⟨vB, rfl, nB, kB⟩; obtain ⟨aB, cB, lB, rfl, hcB, rB, mB, pB, eB, -⟩ := nB.natR.shape; have jB := mul_few hA.hmb hB.hmb pB eB; have k2 := k1.trans kB; have BB := BA.keep kB; have rA2 := rA.keep kB; have t0 := Keep.cell kB s0; have t1 := Keep.cell kB s1; have t2 := Keep.cell kB s2; have t3 := Keep.cell kB s3; have t4 := Keep.cell kB s4; have t5 := Keep.cell kB s5)
    | (go_at_call 16; refine (Over_form _ aA aB cA cB lA lB wB hcA hcB ?_ ?_ rA2 rB mA mB).mono ?_; omega; omega; rintro e wC hC; rw [eA, eB] at hC; obtain ⟨an, cn, ln, ad, cm, lm, rfl, hfin, kC⟩ := hC.box k2 hgw BB; have BC := BB.keep kC; obtain ⟨z0, z1, z2⟩ := BC.cells; have f0 := BC.free 0; have f1 := BC.free 1; have f2 := BC.free 2; have u0 := Keep.cell kC t0; have u1 := Keep.cell kC t1; have u2 := Keep.cell kC t2; have u3 := Keep.cell kC t3; have u4 := Keep.cell kC t4; have u5 := Keep.cell kC t5))
  go_simp
  go_wp2_with fail
  refine bodyPost_ret (v := .tuple #[.agg #[.bool _, .slice an ln.length cn, .slice ad lm.length cm], .int .i64 (RE (val lb * val ld))]) (by simp [results, Tryz.results13, go_sem, World.cell?_setCell_other, World.cell?_setCell_same, z0, z1, z2]) rfl (hfin _ _ _)
set_option maxRecDepth 100000 in
set_option maxHeartbeats 400000 in
theorem isNought_any (a : Option Addr) (ca : Nat) (la : List Nat) (w : World) (hca : la.length ≤ ca) (hla : la.length ≤ 70368744177664) (hra : Rd w a la) :
    Calls Tryz.prog 33 #[.slice a la.length ca] w fun e w' => e = .returned (.bool (decide (val la = 0))) ∧ w' = w := by
  have t1 := trim_any a ca la w hca (by omega) hra
  have HN : Hid (decide (val la = 0) = ((nl la : Int) == 0)) := by
    show _ = _
    rw [Bool.eq_iff_iff]
    simp
    exact nl_val.symm
  go_enter Tryz.func33, Tryz.ntmps33
  go_wp2_with fail
  refine t1.mono ?_
  rintro e w1 ⟨rfl, rfl⟩
  go_wp2_with fail
  go_ret
  exact ⟨by rw [HN.out]; rfl, rfl⟩
set_option maxRecDepth 100000 in
set_option maxHeartbeats 1600000 in
theorem By_some (n1 n2 : Bool) (a b c d : Option Addr) (ca cb cc cd : Nat) (la lb lc ld : List Nat) (w : World) (hA : Arg2 w a ca la b cb lb) (hB : Arg2 w c cc lc d cd ld) (hd0 : val ld ≠ 0) :
    Calls Tryz.prog 15 #[.agg #[.bool n1, .slice a la.length ca, .slice b lb.length cb], .agg #[.bool n2, .slice c lc.length cc, .slice d ld.length cd]] w fun e w' => RatF w w' e (n1 != n2) (val la * val ld) (val lb * val lc) := by
  obtain ⟨W, hW, B1, B2, B3, kW, hsz⟩ := lay3 w (.bool n1) (.slice a la.length ca) (.slice b lb.length cb) (.bool n2) (.slice c lc.length cc) (.slice d ld.length cd) (.bool false) (.slice none 0 0) (.slice none 0 0)
  have M1 := fun wx (hk : Keep w wx) => Mul_any a d ca cd la ld wx hA.hca hB.hcb (by have := hA.hla; omega) (by have := hB.hlb; omega) (hA.hra.keep hk) (hB.hrb.keep hk) hA.hma hB.hmb
  have M2 := fun wx (hk : Keep w wx) => Mul_any b c cb cc lb lc wx hA.hcb hB.hca (by have := hA.hlb; omega) (by have := hB.hla; omega) (hA.hrb.keep hk) (hB.hra.keep hk) hA.hmb hB.hma
  have q1 := hA.hla
  have q2 := hA.hlb
  have q3 := hB.hla
  have q4 := hB.hlb
  go_enter Tryz.func15, Tryz.ntmps15
  go_wp2_with fail
  rw [← hW]
  clear hW
  have hN := fun wx (hk : Keep w wx) => isNought_any d cd ld wx hB.hcb (by have := hB.hlb; omega) (hB.hrb.keep hk)
  rw [decide_eq_false hd0] at hN
  refine (hN W kW).mono ?_
  rintro e w' ⟨rfl, hw'⟩
  have hw' := hw'.symm
  subst hw'
  clear hN
  obtain ⟨x0, x1, x2⟩ := B1.cells
  obtain ⟨x3, x4, x5⟩ := B2.cells
  go_wp2_with fail
  clear x0 x1 x2 x3 x4 x5
  obtain ⟨x0, x1, x2⟩ := B1.cells
  obtain ⟨x3, x4, x5⟩ := B2.cells
  have Bd : Box W.drew (w.heap.size + 1 + 1) (.bool false) (.slice none 0 0) (.slice none 0 0) := B3
  have kd : Keep w W.drew := kW.drew
  have hgw : w.heap.size ≤ w.heap.size + 1 + 1 := by omega
  obtain ⟨g, hg⟩ : ∃ g, w.heap.size = g := ⟨_, rfl⟩
  rw [hg] at x0 x1 x2 x3 x4 x5 Bd
  rw [show w.heap.size + 1 + 1 = g + 1 + 1 by omega] at hgw
  rw [hg]
  clear hg
  have hn1 : ¬ (g = g + 1 + 1) := by omega
  have hn2 : ¬ (g + 1 + 1 = g) := by omega
  go_region_held3 (fun w' => w'.cell? ⟨g, 0, none⟩ = some (Value.bool n1) ∧ w'.cell? ⟨g, 1, none⟩ = some (Value.slice a la.length ca) ∧ w'.cell? ⟨g, 2, none⟩ = some (Value.slice b lb.length cb) ∧ w'.cell? ⟨g + 1, 0, none⟩ = some (Value.bool n2) ∧ w'.cell? ⟨g + 1, 1, none⟩ = some (Value.slice c lc.length cc) ∧ w'.cell? ⟨g + 1, 2, none⟩ = some (Value.slice d ld.length cd)) (go_keep) (first
    | (go_at_call_of 31 (Value.slice a la.length ca); refine (M1 _ ?_).mono ?_; exact kd; rintro e wA ⟨vA, rfl, nA, kA⟩; obtain ⟨aA, cA, lA, rfl, hcA, rA, mA, pA, eA, -⟩ := nA.natR.shape; have jA := mul_few hA.hma hB.hmb pA eA; have k1 := kd.trans kA; have BA := Bd.keep kA; have s0 := Keep.cell kA x0; have s1 := Keep.cell kA x1; have s2 := Keep.cell kA x2; have s3 := Keep.cell kA x3; have s4 := Keep.cell kA x4; have s5 := Keep.cell kA x5)
    | (go_at_call_of 31 (Value.slice b lb.length cb); refine (M2 _ ?_).mono ?_; exact k1; rintro e wB ⟨vB, rfl, nB, kB⟩; obtain ⟨aB, cB, lB, rfl, hcB, rB, mB, pB, eB, -⟩ := nB.natR.shape; have jB := mul_few hA.hmb hB.hma pB eB; have k2 := k1.trans kB; have BB := BA.keep kB; have rA2 := rA.keep kB; have t0 := Keep.cell kB s0; have t1 := Keep.cell kB s1; have t2 := Keep.cell kB s2; have t3 := Keep.cell kB s3; have t4 := Keep.cell kB s4; have t5 := Keep.cell kB s5)
    | (go_at_call 16; refine (Over_form _ aA aB cA cB lA lB wB hcA hcB ?_ ?_ rA2 rB mA mB).mono ?_; omega; omega; rintro e wC hC; rw [eA, eB] at hC; obtain ⟨an, cn, ln, ad, cm, lm, rfl, hfin, kC⟩ := hC.box k2 hgw BB; have BC := BB.keep kC; obtain ⟨z0, z1, z2⟩ := BC.cells; have f0 := BC.free 0; have f1 := BC.free 1; have f2 := BC.free 2; have u0 := Keep.cell kC t0; have u1 := Keep.cell kC t1; have u2 := Keep.cell kC t2; have u3 := Keep.cell kC t3; have u4 := Keep.cell kC t4; have u5 := Keep.cell kC t5))
  go_simp
  go_wp2_with fail
  refine bodyPost_ret (v := .tuple #[.agg #[.bool _, .slice an ln.length cn, .slice ad lm.length cm], .int .i64 (RE (val lb * val lc))]) (by simp [results, Tryz.results15, go_sem, World.cell?_setCell_other, World.cell?_setCell_same, z0, z1, z2]) rfl (hfin _ _ _)
set_option maxRecDepth 100000 in
set_option maxHeartbeats 400000 in
theorem By_none (n1 n2 : Bool) (a b c d : Option Addr) (ca cb cc cd : Nat) (la lb lc ld : List Nat) (w : World) (hB : Arg2 w c cc lc d cd ld) (hd0 : val ld = 0) :
    Calls Tryz.prog 15 #[.agg #[.bool n1, .slice a la.length ca, .slice b lb.length cb], .agg #[.bool n2, .slice c lc.length cc, .slice d ld.length cd]] w fun e w' => e = .returned (.tuple #[.agg #[.bool false, .slice none 0 0, .slice none 0 0], .int .i64 11]) ∧ Keep w w' := by
  obtain ⟨W, hW, B1, B2, B3, kW, hsz⟩ := lay3 w (.bool n1) (.slice a la.length ca) (.slice b lb.length cb) (.bool n2) (.slice c lc.length cc) (.slice d ld.length cd) (.bool false) (.slice none 0 0) (.slice none 0 0)
  have hN := fun wx (hk : Keep w wx) => isNought_any d cd ld wx hB.hcb (by have := hB.hlb; omega) (hB.hrb.keep hk)
  rw [decide_eq_true hd0] at hN
  go_enter Tryz.func15, Tryz.ntmps15
  go_wp2_with fail
  rw [← hW]
  clear hW
  refine (hN W kW).mono ?_
  rintro e w' ⟨rfl, hw'⟩
  have hw' := hw'.symm
  subst hw'
  clear hN
  obtain ⟨z0, z1, z2⟩ := B3.cells
  have f0 := B3.free 0
  have f1 := B3.free 1
  have f2 := B3.free 2
  go_wp2_with fail
  refine bodyPost_ret (v := .tuple #[.agg #[.bool false, .slice none 0 0, .slice none 0 0], .int .i64 11]) (by simp [results, Tryz.results15, go_sem, World.cell?_setCell_other, World.cell?_setCell_same, z0, z1, z2]) rfl ⟨rfl, ?_⟩
  exact ((kW.setCell (by show _ ≤ w.heap.size + 1 + 1; omega) _).setCell (by show _ ≤ w.heap.size + 1 + 1; omega) _).setCell (by show _ ≤ w.heap.size + 1 + 1; omega) _
/-- The quotient that has nought below. -/
theorem RatF.none {w w' : World} {neg : Bool} {N D : Nat} (hD : D = 0) (k : Keep w w') : RatF w w' (.returned (.tuple #[.agg #[.bool false, .slice none 0 0, .slice none 0 0], .int .i64 11])) neg N D :=
  ⟨.none, 0, [], .none, 0, [], by simp [RS, RE, hD], by simp, by simp, Rd.nil _ _, Rd.nil _ _, by intro x hx; simp at hx, by intro x hx; simp at hx, by simp [Nrm], by simp [Nrm], by simp [RN, hD, val], by simp [RD, hD, val], k⟩
theorem By_form (n1 n2 : Bool) (a b c d : Option Addr) (ca cb cc cd : Nat) (la lb lc ld : List Nat) (w : World) (hA : Arg2 w a ca la b cb lb) (hB : Arg2 w c cc lc d cd ld) :
    Calls Tryz.prog 15 #[.agg #[.bool n1, .slice a la.length ca, .slice b lb.length cb], .agg #[.bool n2, .slice c lc.length cc, .slice d ld.length cd]] w fun e w' => RatF w w' e (n1 != n2) (val la * val ld) (if val ld = 0 then 0 else val lb * val lc) := by
  by_cases h : val ld = 0
  · refine (By_none n1 n2 a b c d ca cb cc cd la lb lc ld w hB h).mono ?_
    rintro e w' ⟨rfl, k⟩
    exact RatF.none (by rw [if_pos h]) k
  · rw [if_neg h]
    exact By_some n1 n2 a b c d ca cb cc cd la lb lc ld w hA hB h
end Go.Proofs.YtbpfpldahmfjaaaGreatDoor.Li
