import Derived.Test.YtinjikoocegooaaGreatDoorProg
import Derived.Test.YtinjikoocegooaaGreatDoorLC10
import Derived.Test.YtinjikoocegooaaGreatDoorShelf
import Derived.Test.YtinjikoocegooaaGreatDoorZLK3
import Derived.WalkKit
import Derived.WalkSpells
import Derived.WalkLawsBesides
import Derived.Laws.CopyOwn
import Derived.Deep.Draws
import Derived.Deep.QuietTactic
import Derived.BigQuiet
import Derived.Laws.MathBits
import Derived.Shelf.Small.Bits
import Derived.Laws.BytesArg
import Derived.Lib.OthersKept
import Derived.Deep.RegionWith
import Derived.WalkMore
import Derived.Deep.LoopGhost
import Derived.Deep.RegionHeld3
import Derived.Test.YtinjikoocegooaaGreatDoorZLD6
set_option linter.unusedVariables false
set_option linter.unusedSimpArgs false
namespace Go.Proofs.YtinjikoocegooaaGreatDoor.Li
open Go.RowKit Lb
set_option maxRecDepth 100000 in
set_option maxHeartbeats 400000 in
theorem isNought_any (a : Option Addr) (ca : Nat) (la : List Nat) (w : World) (hca : la.length ≤ ca) (hla : la.length ≤ 70368744177664) (hra : Rd w a la) :
    Calls Tryz.prog 21 #[.slice a la.length ca] w fun e w' => e = .returned (.bool (decide (val la = 0))) ∧ w' = w := by
  have t1 := trim_any a ca la w hca (by omega) hra
  have HN : Hid (decide (val la = 0) = ((nl la : Int) == 0)) := by
    show _ = _
    rw [Bool.eq_iff_iff]
    simp
    exact nl_val.symm
  go_enter Tryz.func21, Tryz.ntmps21
  go_wp2_with fail
  refine t1.mono ?_
  rintro e w1 ⟨rfl, rfl⟩
  go_wp2_with fail
  go_ret
  exact ⟨by rw [HN.out]; rfl, rfl⟩
end Go.Proofs.YtinjikoocegooaaGreatDoor.Li
set_option linter.unusedVariables false
set_option linter.unusedSimpArgs false
namespace Go.Proofs.YtinjikoocegooaaGreatDoor.Li
open Go.RowKit Lb
set_option maxRecDepth 100000 in
set_option maxHeartbeats 800000 in
theorem crossed_any (n1 n2 : Bool) (a b c d : Option Addr) (ca cb cc cd : Nat) (la lb lc ld : List Nat) (w : World) (hA : Arg2 w a ca la b cb lb) (hB : Arg2 w c cc lc d cd ld) :
    Calls Tryz.prog 23 #[.agg #[.bool n1, .slice a la.length ca, .slice b lb.length cb], .agg #[.bool n2, .slice c lc.length cc, .slice d ld.length cd]] w fun e w' => ∃ vA vB, e = .returned (.tuple #[vA, vB]) ∧ NatR w.heap.size w' vA (val la * val ld) ∧ NatR w.heap.size w' vB (val lc * val lb) ∧ Keep w w' := by
  obtain ⟨W, hW, B1, B2, kW⟩ := lay2 w (.bool n1) (.slice a la.length ca) (.slice b lb.length cb) (.bool n2) (.slice c lc.length cc) (.slice d ld.length cd)
  have M1 := fun wx (hk : Keep w wx) => Mul_any a d ca cd la ld wx hA.hca hB.hcb (by have := hA.hla; omega) (by have := hB.hlb; omega) (hA.hra.keep hk) (hB.hrb.keep hk) hA.hma hB.hmb
  have M2 := fun wx (hk : Keep w wx) => Mul_any c b cc cb lc lb wx hB.hca hA.hcb (by have := hB.hla; omega) (by have := hA.hlb; omega) (hB.hra.keep hk) (hA.hrb.keep hk) hB.hma hA.hmb
  go_enter Tryz.func23, Tryz.ntmps23
  go_wp2_with fail
  rw [← hW]
  clear hW
  obtain ⟨x0, x1, x2⟩ := B1.cells
  obtain ⟨x3, x4, x5⟩ := B2.cells
  have kd : Keep w W.drew := kW.drew
  obtain ⟨g, hg⟩ : ∃ g, w.heap.size = g := ⟨_, rfl⟩
  have hgl : Hid (w.heap.size = g) := hg
  rw [hg] at x0 x1 x2 x3 x4 x5
  rw [hg]
  clear hg B1 B2
  go_region_held3 (fun w' => w'.cell? ⟨g, 1, none⟩ = some (Value.slice a la.length ca) ∧ w'.cell? ⟨g, 2, none⟩ = some (Value.slice b lb.length cb) ∧ w'.cell? ⟨g + 1, 1, none⟩ = some (Value.slice c lc.length cc) ∧ w'.cell? ⟨g + 1, 2, none⟩ = some (Value.slice d ld.length cd)) (go_keep) (first
    | (go_at_call_of 32 (Value.slice a la.length ca); refine (M1 _ ?_).mono ?_; exact kd; rintro e wA ⟨vA, rfl, nA, kA⟩; have nA' := nA.natR; obtain ⟨aA, cA, lA, rfl, -⟩ := nA.natR.shape; have k1 := kd.trans kA; have s1 := Keep.cell kA x1; have s2 := Keep.cell kA x2; have s4 := Keep.cell kA x4; have s5 := Keep.cell kA x5)
    | (go_at_call_of 32 (Value.slice c lc.length cc); refine (M2 _ ?_).mono ?_; exact k1; rintro e wB ⟨vB, rfl, nB, kB⟩; have nB' := nB.natR; obtain ⟨aB, cB, lB, rfl, -⟩ := nB.natR.shape; have k2 := k1.trans kB; have t1 := Keep.cell kB s1; have t2 := Keep.cell kB s2; have t4 := Keep.cell kB s4; have t5 := Keep.cell kB s5))
  go_simp
  go_wp2_with fail
  go_ret2
  exact ⟨_, _, rfl, (nA'.keep kB).mono kd.le, nB'.mono k1.le, k2⟩
end Go.Proofs.YtinjikoocegooaaGreatDoor.Li
set_option linter.unusedVariables false
set_option linter.unusedSimpArgs false
namespace Go.Proofs.YtinjikoocegooaaGreatDoor.Li
open Go.RowKit Lb
theorem sum_few {la lb l : List Nat} (ma : Lim la) (mb : Lim lb) (n : Nrm l) (e : val l = val la + val lb) : l.length ≤ la.length + lb.length + 1 := len_le_pow n _ (by
  have h1 := val_lt ma
  have h2 := val_lt mb
  have h3 : 4294967296 ^ la.length ≤ 4294967296 ^ (la.length + lb.length) := Nat.pow_le_pow_right (by omega) (by omega)
  have h4 : 4294967296 ^ lb.length ≤ 4294967296 ^ (la.length + lb.length) := Nat.pow_le_pow_right (by omega) (by omega)
  rw [e, Nat.pow_succ]
  omega)
theorem sub_few {la l : List Nat} {x : Nat} (ma : Lim la) (n : Nrm l) (e : val l = val la - x) : l.length ≤ la.length := len_le_pow n _ (by have := val_lt ma; omega)
set_option maxRecDepth 100000 in
set_option maxHeartbeats 1600000 in
theorem Plus_like (n1 n2 : Bool) (a b c d : Option Addr) (ca cb cc cd : Nat) (la lb lc ld : List Nat) (w : World) (hA : Arg2 w a ca la b cb lb) (hB : Arg2 w c cc lc d cd ld) (hn : n1 = n2) :
    Calls Tryz.prog 13 #[.agg #[.bool n1, .slice a la.length ca, .slice b lb.length cb], .agg #[.bool n2, .slice c lc.length cc, .slice d ld.length cd]] w fun e w' => RatF w w' e n1 (val la * val ld + val lc * val lb) (val lb * val ld) := by
  subst hn
  obtain ⟨W, hW, B1, B2, B3, kW, hsz⟩ := lay3 w (.bool n1) (.slice a la.length ca) (.slice b lb.length cb) (.bool n1) (.slice c lc.length cc) (.slice d ld.length cd) (.bool false) (.slice none 0 0) (.slice none 0 0)
  have C1 := fun wx (hk : Keep w wx) => crossed_any n1 n1 a b c d ca cb cc cd la lb lc ld wx (hA.keep hk) (hB.keep hk)
  have M2 := fun wx (hk : Keep w wx) => Mul_any b d cb cd lb ld wx hA.hcb hB.hcb (by have := hA.hlb; omega) (by have := hB.hlb; omega) (hA.hrb.keep hk) (hB.hrb.keep hk) hA.hmb hB.hmb
  have q1 := hA.hla
  have q2 := hA.hlb
  have q3 := hB.hla
  have q4 := hB.hlb
  go_enter Tryz.func13, Tryz.ntmps13
  go_wp2_with fail
  rw [← hW]
  clear hW
  refine (C1 W kW).mono ?_
  rintro e wA ⟨vL, vR, rfl, nL, nR, kA⟩
  obtain ⟨aL, cL, lL, rfl, hcL, rL, mL, pL, eL, -⟩ := nL.shape
  obtain ⟨aR, cR, lR, rfl, hcR, rR, mR, pR, eR, -⟩ := nR.shape
  have jL := mul_few hA.hma hB.hmb pL eL
  have jR := mul_few hB.hma hA.hmb pR eR
  have B1 := B1.keep kA
  have B2 := B2.keep kA
  have B3 := B3.keep kA
  have kA' := kW.trans kA
  obtain ⟨x0, x1, x2⟩ := B1.cells
  obtain ⟨x3, x4, x5⟩ := B2.cells
  clear C1 nL nR
  go_wp2_with fail
  refine (M2 wA kA').mono ?_
  rintro e wB ⟨vD, rfl, nD, kB⟩
  obtain ⟨aD, cD, lD, rfl, hcD, rD, mD, pD, eD, -⟩ := nD.natR.shape
  have jD := mul_few hA.hmb hB.hmb pD eD
  clear x0 x1 x2 x3 x4 x5 M2 nD
  have B1 := B1.keep kB
  have B2 := B2.keep kB
  have B3 := B3.keep kB
  have kB' := kA'.trans kB
  have rL := rL.keep kB
  have rR := rR.keep kB
  obtain ⟨x0, x1, x2⟩ := B1.cells
  obtain ⟨x3, x4, x5⟩ := B2.cells
  go_wp2_with fail
  have Bd : Box wB.drew (w.heap.size + 1 + 1) (.bool false) (.slice none 0 0) (.slice none 0 0) := B3
  have kd : Keep w wB.drew := kB'.drew
  have hgw : w.heap.size ≤ w.heap.size + 1 + 1 := by omega
  obtain ⟨g, hg⟩ : ∃ g, w.heap.size = g := ⟨_, rfl⟩
  rw [hg] at x0 x1 x2 x3 x4 x5 Bd
  rw [show w.heap.size + 1 + 1 = g + 1 + 1 by omega] at hgw
  rw [hg]
  clear hg
  have hn1 : ¬ (g = g + 1 + 1) := by omega
  have hn2 : ¬ (g + 1 + 1 = g) := by omega
  clear B1 B2
  go_region_held3 (fun w' => w'.cell? ⟨g, 0, none⟩ = some (Value.bool n1)) (go_keep) (first
    | (go_at_call 34; refine (sum_any aL aR cL cR lL lR _ ?_ ?_ ?_ ?_ mL mR).mono ?_; omega; omega; exact rL; exact rR; rintro e wS ⟨vS, rfl, nS, kS⟩; obtain ⟨aS, cS, lS, rfl, hcS, rS, mS, pS, eS, -⟩ := nS.shape; have jS := sum_few mL mR pS eS; rw [eL, eR] at eS; have k2 := kd.trans kS; have BS := Bd.keep kS; have rD2 := rD.keep ((Keep.refl wB).drew.trans kS); have s0 := Keep.cell kS x0)
    | (go_at_call 33; refine (Over_form _ aS aD cS cD lS lD wS hcS hcD ?_ ?_ rS rD2 mS mD).mono ?_; omega; omega; rintro e wC hC; rw [eS, eD] at hC; obtain ⟨an, cn, ln, ad, cm, lm, rfl, hfin, kC⟩ := hC.box k2 hgw BS; have BC := BS.keep kC; obtain ⟨z0, z1, z2⟩ := BC.cells; have f0 := BC.free 0; have f1 := BC.free 1; have f2 := BC.free 2; have t0 := Keep.cell kC s0))
  go_simp
  go_wp2_with fail
  refine bodyPost_ret (v := .tuple #[.agg #[.bool _, .slice an ln.length cn, .slice ad lm.length cm], .int .i64 (RE (val lb * val ld))]) (by simp [results, Tryz.results13, go_sem, World.cell?_setCell_other, World.cell?_setCell_same, z0, z1, z2]) rfl (hfin _ _ _)
set_option maxRecDepth 100000 in
set_option maxHeartbeats 1600000 in
theorem Plus_more (n1 n2 : Bool) (a b c d : Option Addr) (ca cb cc cd : Nat) (la lb lc ld : List Nat) (w : World) (hA : Arg2 w a ca la b cb lb) (hB : Arg2 w c cc lc d cd ld) (hn : n1 ≠ n2) (hle : val lc * val lb ≤ val la * val ld) :
    Calls Tryz.prog 13 #[.agg #[.bool n1, .slice a la.length ca, .slice b lb.length cb], .agg #[.bool n2, .slice c lc.length cc, .slice d ld.length cd]] w fun e w' => RatF w w' e n1 (val la * val ld - val lc * val lb) (val lb * val ld) := by
  obtain ⟨W, hW, B1, B2, B3, kW, hsz⟩ := lay3 w (.bool n1) (.slice a la.length ca) (.slice b lb.length cb) (.bool n2) (.slice c lc.length cc) (.slice d ld.length cd) (.bool false) (.slice none 0 0) (.slice none 0 0)
  have C1 := fun wx (hk : Keep w wx) => crossed_any n1 n2 a b c d ca cb cc cd la lb lc ld wx (hA.keep hk) (hB.keep hk)
  have M2 := fun wx (hk : Keep w wx) => Mul_any b d cb cd lb ld wx hA.hcb hB.hcb (by have := hA.hlb; omega) (by have := hB.hlb; omega) (hA.hrb.keep hk) (hB.hrb.keep hk) hA.hmb hB.hmb
  have q1 := hA.hla
  have q2 := hA.hlb
  have q3 := hB.hla
  have q4 := hB.hlb
  go_enter Tryz.func13, Tryz.ntmps13
  go_wp2_with fail
  rw [← hW]
  clear hW
  refine (C1 W kW).mono ?_
  rintro e wA ⟨vL, vR, rfl, nL, nR, kA⟩
  obtain ⟨aL, cL, lL, rfl, hcL, rL, mL, pL, eL, -⟩ := nL.shape
  obtain ⟨aR, cR, lR, rfl, hcR, rR, mR, pR, eR, -⟩ := nR.shape
  have jL := mul_few hA.hma hB.hmb pL eL
  have jR := mul_few hB.hma hA.hmb pR eR
  have B1 := B1.keep kA
  have B2 := B2.keep kA
  have B3 := B3.keep kA
  have kA' := kW.trans kA
  obtain ⟨x0, x1, x2⟩ := B1.cells
  obtain ⟨x3, x4, x5⟩ := B2.cells
  clear C1 nL nR
  go_wp2_with fail
  refine (M2 wA kA').mono ?_
  rintro e wB ⟨vD, rfl, nD, kB⟩
  obtain ⟨aD, cD, lD, rfl, hcD, rD, mD, pD, eD, -⟩ := nD.natR.shape
  have jD := mul_few hA.hmb hB.hmb pD eD
  clear x0 x1 x2 x3 x4 x5 M2 nD
  have B1 := B1.keep kB
  have B2 := B2.keep kB
  have B3 := B3.keep kB
  have kB' := kA'.trans kB
  have rL := rL.keep kB
  have rR := rR.keep kB
  obtain ⟨x0, x1, x2⟩ := B1.cells
  obtain ⟨x3, x4, x5⟩ := B2.cells
  have hvge : val lR ≤ val lL := by rw [eL, eR]; exact hle
  have hfit : lR.length ≤ lL.length := val_len mL pR hvge
  have hnn : (n1 == n2) = false := by cases n1 <;> cases n2 <;> simp_all
  have hcp := compare_any aL aR cL cR lL lR wB (by omega) (by omega) rL rR
  rw [cmpL_eq lL lR mL mR pL pR, eL, eR] at hcp
  have hz : 0 ≤ cmpN (val la * val ld) (val lc * val lb) := by unfold cmpN; rw [if_neg (by omega)]; split <;> omega
  generalize cmpN (val la * val ld) (val lc * val lb) = z at hcp hz
  have hgz : decide (0 ≤ z) = true := by simp; omega
  go_wp2_with fail
  refine hcp.mono ?_
  rintro e wP ⟨rfl, dP⟩
  clear hcp
  have kP := dP.keep
  clear x0 x1 x2 x3 x4 x5
  have B1 := B1.keep kP
  have B2 := B2.keep kP
  have B3 := B3.keep kP
  have kP' := kB'.trans kP
  have rL := rL.keep kP
  have rR := rR.keep kP
  have rD := rD.keep kP
  obtain ⟨x0, x1, x2⟩ := B1.cells
  obtain ⟨x3, x4, x5⟩ := B2.cells
  go_wp2_with fail
  have Bd : Box wP.drew (w.heap.size + 1 + 1) (.bool false) (.slice none 0 0) (.slice none 0 0) := B3
  have kd : Keep w wP.drew := kP'.drew
  have hgw : w.heap.size ≤ w.heap.size + 1 + 1 := by omega
  obtain ⟨g, hg⟩ : ∃ g, w.heap.size = g := ⟨_, rfl⟩
  rw [hg] at x0 x1 x2 x3 x4 x5 Bd
  rw [show w.heap.size + 1 + 1 = g + 1 + 1 by omega] at hgw
  rw [hg]
  clear hg
  have hn1 : ¬ (g = g + 1 + 1) := by omega
  have hn2 : ¬ (g + 1 + 1 = g) := by omega
  clear B1 B2
  go_region_held3 (fun w' => w'.cell? ⟨g, 0, none⟩ = some (Value.bool n1)) (go_keep) (first
    | (go_at_call 35; refine (difference_any aL aR cL cR lL lR _ ?_ ?_ ?_ mL mR ?_ ?_).mono ?_; omega; exact rL; exact rR; exact hfit; exact hvge; rintro e wS ⟨vS, rfl, nS, kS⟩; obtain ⟨aS, cS, lS, rfl, hcS, rS, mS, pS, eS, -⟩ := nS.shape; have jS := sub_few mL pS eS; rw [eL, eR] at eS; have k2 := kd.trans kS; have BS := Bd.keep kS; have rD2 := rD.keep ((Keep.refl wP).drew.trans kS); have s0 := Keep.cell kS x0)
    | (go_at_call 33; refine (Over_form _ aS aD cS cD lS lD wS hcS hcD ?_ ?_ rS rD2 mS mD).mono ?_; omega; omega; rintro e wC hC; rw [eS, eD] at hC; obtain ⟨an, cn, ln, ad, cm, lm, rfl, hfin, kC⟩ := hC.box k2 hgw BS; have BC := BS.keep kC; obtain ⟨z0, z1, z2⟩ := BC.cells; have f0 := BC.free 0; have f1 := BC.free 1; have f2 := BC.free 2; have t0 := Keep.cell kC s0))
  go_simp
  go_wp2_with fail
  refine bodyPost_ret (v := .tuple #[.agg #[.bool _, .slice an ln.length cn, .slice ad lm.length cm], .int .i64 (RE (val lb * val ld))]) (by simp [results, Tryz.results13, go_sem, World.cell?_setCell_other, World.cell?_setCell_same, z0, z1, z2]) rfl (hfin _ _ _)
set_option maxRecDepth 100000 in
set_option maxHeartbeats 1600000 in
theorem Plus_less (n1 n2 : Bool) (a b c d : Option Addr) (ca cb cc cd : Nat) (la lb lc ld : List Nat) (w : World) (hA : Arg2 w a ca la b cb lb) (hB : Arg2 w c cc lc d cd ld) (hn : n1 ≠ n2) (hle : val la * val ld < val lc * val lb) :
    Calls Tryz.prog 13 #[.agg #[.bool n1, .slice a la.length ca, .slice b lb.length cb], .agg #[.bool n2, .slice c lc.length cc, .slice d ld.length cd]] w fun e w' => RatF w w' e n2 (val lc * val lb - val la * val ld) (val lb * val ld) := by
  obtain ⟨W, hW, B1, B2, B3, kW, hsz⟩ := lay3 w (.bool n1) (.slice a la.length ca) (.slice b lb.length cb) (.bool n2) (.slice c lc.length cc) (.slice d ld.length cd) (.bool false) (.slice none 0 0) (.slice none 0 0)
  have C1 := fun wx (hk : Keep w wx) => crossed_any n1 n2 a b c d ca cb cc cd la lb lc ld wx (hA.keep hk) (hB.keep hk)
  have M2 := fun wx (hk : Keep w wx) => Mul_any b d cb cd lb ld wx hA.hcb hB.hcb (by have := hA.hlb; omega) (by have := hB.hlb; omega) (hA.hrb.keep hk) (hB.hrb.keep hk) hA.hmb hB.hmb
  have q1 := hA.hla
  have q2 := hA.hlb
  have q3 := hB.hla
  have q4 := hB.hlb
  go_enter Tryz.func13, Tryz.ntmps13
  go_wp2_with fail
  rw [← hW]
  clear hW
  refine (C1 W kW).mono ?_
  rintro e wA ⟨vL, vR, rfl, nL, nR, kA⟩
  obtain ⟨aL, cL, lL, rfl, hcL, rL, mL, pL, eL, -⟩ := nL.shape
  obtain ⟨aR, cR, lR, rfl, hcR, rR, mR, pR, eR, -⟩ := nR.shape
  have jL := mul_few hA.hma hB.hmb pL eL
  have jR := mul_few hB.hma hA.hmb pR eR
  have B1 := B1.keep kA
  have B2 := B2.keep kA
  have B3 := B3.keep kA
  have kA' := kW.trans kA
  obtain ⟨x0, x1, x2⟩ := B1.cells
  obtain ⟨x3, x4, x5⟩ := B2.cells
  clear C1 nL nR
  go_wp2_with fail
  refine (M2 wA kA').mono ?_
  rintro e wB ⟨vD, rfl, nD, kB⟩
  obtain ⟨aD, cD, lD, rfl, hcD, rD, mD, pD, eD, -⟩ := nD.natR.shape
  have jD := mul_few hA.hmb hB.hmb pD eD
  clear x0 x1 x2 x3 x4 x5 M2 nD
  have B1 := B1.keep kB
  have B2 := B2.keep kB
  have B3 := B3.keep kB
  have kB' := kA'.trans kB
  have rL := rL.keep kB
  have rR := rR.keep kB
  obtain ⟨x0, x1, x2⟩ := B1.cells
  obtain ⟨x3, x4, x5⟩ := B2.cells
  have hvge : val lL ≤ val lR := by rw [eL, eR]; omega
  have hfit : lL.length ≤ lR.length := val_len mR pL hvge
  have hnn : (n1 == n2) = false := by cases n1 <;> cases n2 <;> simp_all
  have hcp := compare_any aL aR cL cR lL lR wB (by omega) (by omega) rL rR
  rw [cmpL_eq lL lR mL mR pL pR, eL, eR] at hcp
  have hz :  cmpN (val la * val ld) (val lc * val lb) < 0 := by unfold cmpN; rw [if_pos (by omega)]; omega
  generalize cmpN (val la * val ld) (val lc * val lb) = z at hcp hz
  have hgz : decide (0 ≤ z) = false := by simp; omega
  go_wp2_with fail
  refine hcp.mono ?_
  rintro e wP ⟨rfl, dP⟩
  clear hcp
  have kP := dP.keep
  clear x0 x1 x2 x3 x4 x5
  have B1 := B1.keep kP
  have B2 := B2.keep kP
  have B3 := B3.keep kP
  have kP' := kB'.trans kP
  have rL := rL.keep kP
  have rR := rR.keep kP
  have rD := rD.keep kP
  obtain ⟨x0, x1, x2⟩ := B1.cells
  obtain ⟨x3, x4, x5⟩ := B2.cells
  go_wp2_with fail
  have Bd : Box wP.drew (w.heap.size + 1 + 1) (.bool false) (.slice none 0 0) (.slice none 0 0) := B3
  have kd : Keep w wP.drew := kP'.drew
  have hgw : w.heap.size ≤ w.heap.size + 1 + 1 := by omega
  obtain ⟨g, hg⟩ : ∃ g, w.heap.size = g := ⟨_, rfl⟩
  rw [hg] at x0 x1 x2 x3 x4 x5 Bd
  rw [show w.heap.size + 1 + 1 = g + 1 + 1 by omega] at hgw
  rw [hg]
  clear hg
  have hn1 : ¬ (g = g + 1 + 1) := by omega
  have hn2 : ¬ (g + 1 + 1 = g) := by omega
  clear B1 B2
  go_region_held3 (fun w' => w'.cell? ⟨g + 1, 0, none⟩ = some (Value.bool n2)) (go_keep) (first
    | (go_at_call 35; refine (difference_any aR aL cR cL lR lL _ ?_ ?_ ?_ mR mL ?_ ?_).mono ?_; omega; exact rR; exact rL; exact hfit; exact hvge; rintro e wS ⟨vS, rfl, nS, kS⟩; obtain ⟨aS, cS, lS, rfl, hcS, rS, mS, pS, eS, -⟩ := nS.shape; have jS := sub_few mR pS eS; rw [eL, eR] at eS; have k2 := kd.trans kS; have BS := Bd.keep kS; have rD2 := rD.keep ((Keep.refl wP).drew.trans kS); have s0 := Keep.cell kS x3)
    | (go_at_call 33; refine (Over_form _ aS aD cS cD lS lD wS hcS hcD ?_ ?_ rS rD2 mS mD).mono ?_; omega; omega; rintro e wC hC; rw [eS, eD] at hC; obtain ⟨an, cn, ln, ad, cm, lm, rfl, hfin, kC⟩ := hC.box k2 hgw BS; have BC := BS.keep kC; obtain ⟨z0, z1, z2⟩ := BC.cells; have f0 := BC.free 0; have f1 := BC.free 1; have f2 := BC.free 2; have t0 := Keep.cell kC s0))
  go_simp
  go_wp2_with fail
  refine bodyPost_ret (v := .tuple #[.agg #[.bool _, .slice an ln.length cn, .slice ad lm.length cm], .int .i64 (RE (val lb * val ld))]) (by simp [results, Tryz.results13, go_sem, World.cell?_setCell_other, World.cell?_setCell_same, z0, z1, z2]) rfl (hfin _ _ _)
def PN (n1 n2 : Bool) (L R : Nat) : Nat := if n1 = n2 then L + R else if R ≤ L then L - R else R - L
def PG (n1 n2 : Bool) (L R : Nat) : Bool := if n1 = n2 then n1 else if R ≤ L then n1 else n2
theorem Plus_form (n1 n2 : Bool) (a b c d : Option Addr) (ca cb cc cd : Nat) (la lb lc ld : List Nat) (w : World) (hA : Arg2 w a ca la b cb lb) (hB : Arg2 w c cc lc d cd ld) :
    Calls Tryz.prog 13 #[.agg #[.bool n1, .slice a la.length ca, .slice b lb.length cb], .agg #[.bool n2, .slice c lc.length cc, .slice d ld.length cd]] w fun e w' => RatF w w' e (PG n1 n2 (val la * val ld) (val lc * val lb)) (PN n1 n2 (val la * val ld) (val lc * val lb)) (val lb * val ld) := by
  unfold PG PN
  by_cases hn : n1 = n2
  · rw [if_pos hn, if_pos hn]
    exact Plus_like n1 n2 a b c d ca cb cc cd la lb lc ld w hA hB hn
  · rw [if_neg hn, if_neg hn]
    by_cases hle : val lc * val lb ≤ val la * val ld
    · rw [if_pos hle, if_pos hle]
      exact Plus_more n1 n2 a b c d ca cb cc cd la lb lc ld w hA hB hn hle
    · rw [if_neg hle, if_neg hle]
      exact Plus_less n1 n2 a b c d ca cb cc cd la lb lc ld w hA hB hn (by omega)
end Go.Proofs.YtinjikoocegooaaGreatDoor.Li
