import Derived.Test.YtbjidpooociamaaDoorK3
import Derived.Test.YtbjidpooociamaaDoorD7
set_option linter.unusedVariables false
set_option linter.unusedSimpArgs false
namespace Go.Proofs.YtbjidpooociamaaDoor
open Go.RowKit Lb
set_option maxRecDepth 100000 in
set_option maxHeartbeats 1600000 in
theorem Times_form (n1 n2 : Bool) (a b c d : Option Addr) (ca cb cc cd : Nat) (la lb lc ld : List Nat) (w : World) (hA : Arg2 w a ca la b cb lb) (hB : Arg2 w c cc lc d cd ld) :
    Calls Tryd.prog 54 #[.agg #[.bool n1, .slice a la.length ca, .slice b lb.length cb], .agg #[.bool n2, .slice c lc.length cc, .slice d ld.length cd]] w fun e w' => RatF w w' e (n1 != n2) (val la * val lc) (val lb * val ld) := by
  obtain ⟨W, hW, B1, B2, B3, kW, hsz⟩ := lay3 w (.bool n1) (.slice a la.length ca) (.slice b lb.length cb) (.bool n2) (.slice c lc.length cc) (.slice d ld.length cd) (.bool false) (.slice none 0 0) (.slice none 0 0)
  have M1 := fun wx (hk : Keep w wx) => Mul_any a c ca cc la lc wx hA.hca hB.hca (by have := hA.hla; omega) (by have := hB.hla; omega) (hA.hra.keep hk) (hB.hra.keep hk) hA.hma hB.hma
  have M2 := fun wx (hk : Keep w wx) => Mul_any b d cb cd lb ld wx hA.hcb hB.hcb (by have := hA.hlb; omega) (by have := hB.hlb; omega) (hA.hrb.keep hk) (hB.hrb.keep hk) hA.hmb hB.hmb
  have q1 := hA.hla
  have q2 := hA.hlb
  have q3 := hB.hla
  have q4 := hB.hlb
  go_enter Tryd.func54, Tryd.ntmps54
  go_wp2_with fail
  rw [← hW]
  clear hW
  obtain ⟨x0, x1, x2⟩ := B1.cells
  obtain ⟨x3, x4, x5⟩ := B2.cells
  have Bd : Box W.drew (w.heap.size + 1 + 1) (.bool false) (.slice none 0 0) (.slice none 0 0) := B3
  have kd : Keep w W.drew := kW.drew
  have hgw : w.heap.size ≤ w.heap.size + 1 + 1 := by omega
  obtain ⟨g, hg⟩ : ∃ g, w.heap.size = g := ⟨_, rfl⟩
  rw [hg] at x0 x1 x2 x3 x4 x5 Bd
  rw [show w.heap.size + 1 + 1 = g + 1 + 1 by omega] at hgw
  rw [hg]
  clear hg
  have hn1 : ¬ (g = g + 1 + 1) := by omega
  have hn2 : ¬ (g + 1 + 1 = g) := by omega
  go_region_held3 (fun w' => w'.cell? ⟨g, 0, none⟩ = some (Value.bool n1) ∧ w'.cell? ⟨g, 1, none⟩ = some (Value.slice a la.length ca) ∧ w'.cell? ⟨g, 2, none⟩ = some (Value.slice b lb.length cb) ∧ w'.cell? ⟨g + 1, 0, none⟩ = some (Value.bool n2) ∧ w'.cell? ⟨g + 1, 1, none⟩ = some (Value.slice c lc.length cc) ∧ w'.cell? ⟨g + 1, 2, none⟩ = some (Value.slice d ld.length cd)) (go_keep) (first
    | (go_at_call_of 35 (Value.slice a la.length ca); refine (M1 _ ?_).mono ?_; exact kd; rintro e wA ⟨vA, rfl, nA, kA⟩; obtain ⟨aA, cA, lA, rfl, hcA, rA, mA, pA, eA, -⟩ := nA.natR.shape; have jA := mul_few hA.hma hB.hma pA eA; have k1 := kd.trans kA; have BA := Bd.keep kA; have s0 := Keep.cell kA x0; have s1 := Keep.cell kA x1; have s2 := Keep.cell kA x2; have s3 := Keep.cell kA x3; have s4 := Keep.cell kA x4; have s5 := Keep.cell kA x5)
    | (go_at_call_of 35 (Value.slice b lb.length cb); refine (M2 _ ?_).mono ?_; exact k1; rintro e wB ⟨vB, rfl, nB, kB⟩; obtain ⟨aB, cB, lB, rfl, hcB, rB, mB, pB, eB, -⟩ := nB.natR.shape; have jB := mul_few hA.hmb hB.hmb pB eB; have k2 := k1.trans kB; have BB := BA.keep kB; have rA2 := rA.keep kB; have t0 := Keep.cell kB s0; have t1 := Keep.cell kB s1; have t2 := Keep.cell kB s2; have t3 := Keep.cell kB s3; have t4 := Keep.cell kB s4; have t5 := Keep.cell kB s5)
    | (go_at_call 50; refine (Over_form _ aA aB cA cB lA lB wB hcA hcB ?_ ?_ rA2 rB mA mB).mono ?_; omega; omega; rintro e wC hC; rw [eA, eB] at hC; obtain ⟨an, cn, ln, ad, cm, lm, rfl, hfin, kC⟩ := hC.box k2 hgw BB; have BC := BB.keep kC; obtain ⟨z0, z1, z2⟩ := BC.cells; have f0 := BC.free 0; have f1 := BC.free 1; have f2 := BC.free 2; have u0 := Keep.cell kC t0; have u1 := Keep.cell kC t1; have u2 := Keep.cell kC t2; have u3 := Keep.cell kC t3; have u4 := Keep.cell kC t4; have u5 := Keep.cell kC t5))
  go_simp
  go_wp2_with fail
  refine bodyPost_ret (v := .tuple #[.agg #[.bool _, .slice an ln.length cn, .slice ad lm.length cm], .int .i64 (RE (val lb * val ld))]) (by simp [results, Tryd.results54, go_sem, World.cell?_setCell_other, World.cell?_setCell_same, z0, z1, z2]) rfl (hfin _ _ _)
set_option maxRecDepth 100000 in
set_option maxHeartbeats 400000 in
theorem isNought_any (a : Option Addr) (ca : Nat) (la : List Nat) (w : World) (hca : la.length ≤ ca) (hla : la.length ≤ 70368744177664) (hra : Rd w a la) :
    Calls Tryd.prog 87 #[.slice a la.length ca] w fun e w' => e = .returned (.bool (decide (val la = 0))) ∧ w' = w := by
  have t1 := trim_any a ca la w hca (by omega) hra
  have HN : Hid (decide (val la = 0) = ((nl la : Int) == 0)) := by
    show _ = _
    rw [Bool.eq_iff_iff]
    simp
    exact nl_val.symm
  go_enter Tryd.func87, Tryd.ntmps87
  go_wp2_with fail
  refine t1.mono ?_
  rintro e w1 ⟨rfl, rfl⟩
  go_wp2_with fail
  go_ret
  exact ⟨by rw [HN.out]; rfl, rfl⟩
set_option maxRecDepth 100000 in
set_option maxHeartbeats 1600000 in
theorem By_some (n1 n2 : Bool) (a b c d : Option Addr) (ca cb cc cd : Nat) (la lb lc ld : List Nat) (w : World) (hA : Arg2 w a ca la b cb lb) (hB : Arg2 w c cc lc d cd ld) (hd0 : val ld ≠ 0) :
    Calls Tryd.prog 55 #[.agg #[.bool n1, .slice a la.length ca, .slice b lb.length cb], .agg #[.bool n2, .slice c lc.length cc, .slice d ld.length cd]] w fun e w' => RatF w w' e (n1 != n2) (val la * val ld) (val lb * val lc) := by
  obtain ⟨W, hW, B1, B2, B3, kW, hsz⟩ := lay3 w (.bool n1) (.slice a la.length ca) (.slice b lb.length cb) (.bool n2) (.slice c lc.length cc) (.slice d ld.length cd) (.bool false) (.slice none 0 0) (.slice none 0 0)
  have M1 := fun wx (hk : Keep w wx) => Mul_any a d ca cd la ld wx hA.hca hB.hcb (by have := hA.hla; omega) (by have := hB.hlb; omega) (hA.hra.keep hk) (hB.hrb.keep hk) hA.hma hB.hmb
  have M2 := fun wx (hk : Keep w wx) => Mul_any b c cb cc lb lc wx hA.hcb hB.hca (by have := hA.hlb; omega) (by have := hB.hla; omega) (hA.hrb.keep hk) (hB.hra.keep hk) hA.hmb hB.hma
  have q1 := hA.hla
  have q2 := hA.hlb
  have q3 := hB.hla
  have q4 := hB.hlb
  go_enter Tryd.func55, Tryd.ntmps55
  go_wp2_with fail
  rw [← hW]
  clear hW
  have hN := fun wx (hk : Keep w wx) => isNought_any d cd ld wx hB.hcb (by have := hB.hlb; omega) (hB.hrb.keep hk)
  rw [decide_eq_false hd0] at hN
  refine (hN W kW).mono ?_
  rintro e w' ⟨rfl, hw'⟩
  have hw' := hw'.symm
  subst hw'
  clear hN
  obtain ⟨x0, x1, x2⟩ := B1.cells
  obtain ⟨x3, x4, x5⟩ := B2.cells
  go_wp2_with fail
  clear x0 x1 x2 x3 x4 x5
  obtain ⟨x0, x1, x2⟩ := B1.cells
  obtain ⟨x3, x4, x5⟩ := B2.cells
  have Bd : Box W.drew (w.heap.size + 1 + 1) (.bool false) (.slice none 0 0) (.slice none 0 0) := B3
  have kd : Keep w W.drew := kW.drew
  have hgw : w.heap.size ≤ w.heap.size + 1 + 1 := by omega
  obtain ⟨g, hg⟩ : ∃ g, w.heap.size = g := ⟨_, rfl⟩
  rw [hg] at x0 x1 x2 x3 x4 x5 Bd
  rw [show w.heap.size + 1 + 1 = g + 1 + 1 by omega] at hgw
  rw [hg]
  clear hg
  have hn1 : ¬ (g = g + 1 + 1) := by omega
  have hn2 : ¬ (g + 1 + 1 = g) := by omega
  go_region_held3 (fun w' => w'.cell? ⟨g, 0, none⟩ = some (Value.bool n1) ∧ w'.cell? ⟨g, 1, none⟩ = some (Value.slice a la.length ca) ∧ w'.cell? ⟨g, 2, none⟩ = some (Value.slice b lb.length cb) ∧ w'.cell? ⟨g + 1, 0, none⟩ = some (Value.bool n2) ∧ w'.cell? ⟨g + 1, 1, none⟩ = some (Value.slice c lc.length cc) ∧ w'.cell? ⟨g + 1, 2, none⟩ = some (Value.slice d ld.length cd)) (go_keep) (first
    | (go_at_call_of 35 (Value.slice a la.length ca); refine (M1 _ ?_).mono ?_; exact kd; rintro e wA ⟨vA, rfl, nA, kA⟩; obtain ⟨aA, cA, lA, rfl, hcA, rA, mA, pA, eA, -⟩ := nA.natR.shape; have jA := mul_few hA.hma hB.hmb pA eA; have k1 := kd.trans kA; have BA := Bd.keep kA; have s0 := Keep.cell kA x0; have s1 := Keep.cell kA x1; have s2 := Keep.cell kA x2; have s3 := Keep.cell kA x3; have s4 := Keep.cell kA x4; have s5 := Keep.cell kA x5)
    | (go_at_call_of 35 (Value.slice b lb.length cb); refine (M2 _ ?_).mono ?_; exact k1; rintro e wB ⟨vB, rfl, nB, kB⟩; obtain ⟨aB, cB, lB, rfl, hcB, rB, mB, pB, eB, -⟩ := nB.natR.shape; have jB := mul_few hA.hmb hB.hma pB eB; have k2 := k1.trans kB; have BB := BA.keep kB; have rA2 := rA.keep kB; have t0 := Keep.cell kB s0; have t1 := Keep.cell kB s1; have t2 := Keep.cell kB s2; have t3 := Keep.cell kB s3; have t4 := Keep.cell kB s4; have t5 := Keep.cell kB s5)
    | (go_at_call 50; refine (Over_form _ aA aB cA cB lA lB wB hcA hcB ?_ ?_ rA2 rB mA mB).mono ?_; omega; omega; rintro e wC hC; rw [eA, eB] at hC; obtain ⟨an, cn, ln, ad, cm, lm, rfl, hfin, kC⟩ := hC.box k2 hgw BB; have BC := BB.keep kC; obtain ⟨z0, z1, z2⟩ := BC.cells; have f0 := BC.free 0; have f1 := BC.free 1; have f2 := BC.free 2; have u0 := Keep.cell kC t0; have u1 := Keep.cell kC t1; have u2 := Keep.cell kC t2; have u3 := Keep.cell kC t3; have u4 := Keep.cell kC t4; have u5 := Keep.cell kC t5))
  go_simp
  go_wp2_with fail
  refine bodyPost_ret (v := .tuple #[.agg #[.bool _, .slice an ln.length cn, .slice ad lm.length cm], .int .i64 (RE (val lb * val lc))]) (by simp [results, Tryd.results55, go_sem, World.cell?_setCell_other, World.cell?_setCell_same, z0, z1, z2]) rfl (hfin _ _ _)
set_option maxRecDepth 100000 in
set_option maxHeartbeats 400000 in
theorem By_none (n1 n2 : Bool) (a b c d : Option Addr) (ca cb cc cd : Nat) (la lb lc ld : List Nat) (w : World) (hB : Arg2 w c cc lc d cd ld) (hd0 : val ld = 0) :
    Calls Tryd.prog 55 #[.agg #[.bool n1, .slice a la.length ca, .slice b lb.length cb], .agg #[.bool n2, .slice c lc.length cc, .slice d ld.length cd]] w fun e w' => e = .returned (.tuple #[.agg #[.bool false, .slice none 0 0, .slice none 0 0], .int .i64 11]) ∧ Keep w w' := by
  obtain ⟨W, hW, B1, B2, B3, kW, hsz⟩ := lay3 w (.bool n1) (.slice a la.length ca) (.slice b lb.length cb) (.bool n2) (.slice c lc.length cc) (.slice d ld.length cd) (.bool false) (.slice none 0 0) (.slice none 0 0)
  have hN := fun wx (hk : Keep w wx) => isNought_any d cd ld wx hB.hcb (by have := hB.hlb; omega) (hB.hrb.keep hk)
  rw [decide_eq_true hd0] at hN
  go_enter Tryd.func55, Tryd.ntmps55
  go_wp2_with fail
  rw [← hW]
  clear hW
  refine (hN W kW).mono ?_
  rintro e w' ⟨rfl, hw'⟩
  have hw' := hw'.symm
  subst hw'
  clear hN
  obtain ⟨z0, z1, z2⟩ := B3.cells
  have f0 := B3.free 0
  have f1 := B3.free 1
  have f2 := B3.free 2
  go_wp2_with fail
  refine bodyPost_ret (v := .tuple #[.agg #[.bool false, .slice none 0 0, .slice none 0 0], .int .i64 11]) (by simp [results, Tryd.results55, go_sem, World.cell?_setCell_other, World.cell?_setCell_same, z0, z1, z2]) rfl ⟨rfl, ?_⟩
  exact ((kW.setCell (by show _ ≤ w.heap.size + 1 + 1; omega) _).setCell (by show _ ≤ w.heap.size + 1 + 1; omega) _).setCell (by show _ ≤ w.heap.size + 1 + 1; omega) _
/-- The quotient that has nought below. -/
theorem RatF.none {w w' : World} {neg : Bool} {N D : Nat} (hD : D = 0) (k : Keep w w') : RatF w w' (.returned (.tuple #[.agg #[.bool false, .slice none 0 0, .slice none 0 0], .int .i64 11])) neg N D :=
  ⟨.none, 0, [], .none, 0, [], by simp [RS, RE, hD], by simp, by simp, Rd.nil _ _, Rd.nil _ _, by intro x hx; simp at hx, by intro x hx; simp at hx, by simp [Nrm], by simp [Nrm], by simp [RN, hD, val], by simp [RD, hD, val], k⟩
theorem By_form (n1 n2 : Bool) (a b c d : Option Addr) (ca cb cc cd : Nat) (la lb lc ld : List Nat) (w : World) (hA : Arg2 w a ca la b cb lb) (hB : Arg2 w c cc lc d cd ld) :
    Calls Tryd.prog 55 #[.agg #[.bool n1, .slice a la.length ca, .slice b lb.length cb], .agg #[.bool n2, .slice c lc.length cc, .slice d ld.length cd]] w fun e w' => RatF w w' e (n1 != n2) (val la * val ld) (if val ld = 0 then 0 else val lb * val lc) := by
  by_cases h : val ld = 0
  · refine (By_none n1 n2 a b c d ca cb cc cd la lb lc ld w hB h).mono ?_
    rintro e w' ⟨rfl, k⟩
    exact RatF.none (by rw [if_pos h]) k
  · rw [if_neg h]
    exact By_some n1 n2 a b c d ca cb cc cd la lb lc ld w hA hB h
end Go.Proofs.YtbjidpooociamaaDoor
namespace Go.Proofs.YtbjidpooociamaaDoor
open Go.RowKit Lb
set_option maxRecDepth 100000 in
set_option maxHeartbeats 400000 in
theorem rTimes_none0 (n1 n2 : Bool) (a b c d : Option Addr) (ca cb cc cd : Nat) (la lb lc ld : List Nat) (w : World) (hA : Arg2 w a ca la b cb lb) (_hB : Arg2 w c cc lc d cd ld) (h0 : val lb = 0) :
    Calls Tryd.prog 58 #[.agg #[.bool n1, .slice a la.length ca, .slice b lb.length cb], .agg #[.bool n2, .slice c lc.length cc, .slice d ld.length cd]] w fun e w' => e = .returned (.tuple #[.agg #[.bool false, .slice none 0 0, .slice none 0 0], .int .i64 11]) ∧ Keep w w' := by
  obtain ⟨W, hW, B1, B2, B3, kW, hsz⟩ := lay3 w (.bool n1) (.slice a la.length ca) (.slice b lb.length cb) (.bool n2) (.slice c lc.length cc) (.slice d ld.length cd) (.bool false) (.slice none 0 0) (.slice none 0 0)
  have cL0 := fun wx (hk : Keep w wx) => rLen_any b cb lb wx hA.hcb (by have := hA.hlb; omega) (hA.hrb.keep hk) hA.hmb
  rw [(lenB_nought hA.hmb).2 h0] at cL0
  go_enter Tryd.func58, Tryd.ntmps58
  go_wp2_with fail
  rw [← hW]
  clear hW
  refine (cL0 W kW).mono ?_
  rintro e v0 ⟨rfl, j0⟩
  have B1 := B1.keep j0
  have B2 := B2.keep j0
  have B3 := B3.keep j0
  have kW0 := kW.trans j0
  obtain ⟨x0, x1, x2⟩ := B1.cells
  obtain ⟨x3, x4, x5⟩ := B2.cells
  obtain ⟨z0, z1, z2⟩ := B3.cells
  have f0 := B3.free 0
  have f1 := B3.free 1
  have f2 := B3.free 2
  go_wp2_with fail
  refine bodyPost_ret (v := .tuple #[.agg #[.bool false, .slice none 0 0, .slice none 0 0], .int .i64 11]) (by simp [results, Tryd.results58, go_sem, World.cell?_setCell_other, World.cell?_setCell_same, z0, z1, z2]) rfl ⟨rfl, ?_⟩
  exact ((kW0.setCell (by show _ ≤ w.heap.size + 1 + 1; omega) _).setCell (by show _ ≤ w.heap.size + 1 + 1; omega) _).setCell (by show _ ≤ w.heap.size + 1 + 1; omega) _
set_option maxRecDepth 100000 in
set_option maxHeartbeats 400000 in
theorem rTimes_none1 (n1 n2 : Bool) (a b c d : Option Addr) (ca cb cc cd : Nat) (la lb lc ld : List Nat) (w : World) (hA : Arg2 w a ca la b cb lb) (hB : Arg2 w c cc lc d cd ld) (h0 : val lb ≠ 0) (h1 : val ld = 0) :
    Calls Tryd.prog 58 #[.agg #[.bool n1, .slice a la.length ca, .slice b lb.length cb], .agg #[.bool n2, .slice c lc.length cc, .slice d ld.length cd]] w fun e w' => e = .returned (.tuple #[.agg #[.bool false, .slice none 0 0, .slice none 0 0], .int .i64 11]) ∧ Keep w w' := by
  obtain ⟨W, hW, B1, B2, B3, kW, hsz⟩ := lay3 w (.bool n1) (.slice a la.length ca) (.slice b lb.length cb) (.bool n2) (.slice c lc.length cc) (.slice d ld.length cd) (.bool false) (.slice none 0 0) (.slice none 0 0)
  have cL0 := fun wx (hk : Keep w wx) => rLen_any b cb lb wx hA.hcb (by have := hA.hlb; omega) (hA.hrb.keep hk) hA.hmb
  have w0 : lenB lb ≠ 0 := fun h => h0 ((lenB_nought hA.hmb).1 h)
  generalize lenB lb = N0 at cL0 w0
  have g0 : ((N0 : Int) == 0) = false := by simp; omega
  have cL1 := fun wx (hk : Keep w wx) => rLen_any d cd ld wx hB.hcb (by have := hB.hlb; omega) (hB.hrb.keep hk) hB.hmb
  rw [(lenB_nought hB.hmb).2 h1] at cL1
  go_enter Tryd.func58, Tryd.ntmps58
  go_wp2_with fail
  rw [← hW]
  clear hW
  refine (cL0 W kW).mono ?_
  rintro e v0 ⟨rfl, j0⟩
  have B1 := B1.keep j0
  have B2 := B2.keep j0
  have B3 := B3.keep j0
  have kW0 := kW.trans j0
  obtain ⟨x0, x1, x2⟩ := B1.cells
  obtain ⟨x3, x4, x5⟩ := B2.cells
  obtain ⟨z0, z1, z2⟩ := B3.cells
  have f0 := B3.free 0
  have f1 := B3.free 1
  have f2 := B3.free 2
  go_wp2_with fail
  clear x0 x1 x2 x3 x4 x5 z0 z1 z2 f0 f1 f2
  refine (cL1 v0 kW0).mono ?_
  rintro e v1 ⟨rfl, j1⟩
  have B1 := B1.keep j1
  have B2 := B2.keep j1
  have B3 := B3.keep j1
  have kW01 := kW0.trans j1
  obtain ⟨x0, x1, x2⟩ := B1.cells
  obtain ⟨x3, x4, x5⟩ := B2.cells
  obtain ⟨z0, z1, z2⟩ := B3.cells
  have f0 := B3.free 0
  have f1 := B3.free 1
  have f2 := B3.free 2
  go_wp2_with fail
  refine bodyPost_ret (v := .tuple #[.agg #[.bool false, .slice none 0 0, .slice none 0 0], .int .i64 11]) (by simp [results, Tryd.results58, go_sem, World.cell?_setCell_other, World.cell?_setCell_same, z0, z1, z2]) rfl ⟨rfl, ?_⟩
  exact ((kW01.setCell (by show _ ≤ w.heap.size + 1 + 1; omega) _).setCell (by show _ ≤ w.heap.size + 1 + 1; omega) _).setCell (by show _ ≤ w.heap.size + 1 + 1; omega) _
set_option maxRecDepth 100000 in
set_option maxHeartbeats 1600000 in
theorem rTimes_some (n1 n2 : Bool) (a b c d : Option Addr) (ca cb cc cd : Nat) (la lb lc ld : List Nat) (w : World) (hA : Arg2 w a ca la b cb lb) (hB : Arg2 w c cc lc d cd ld) (h0 : val lb ≠ 0) (h1 : val ld ≠ 0) :
    Calls Tryd.prog 58 #[.agg #[.bool n1, .slice a la.length ca, .slice b lb.length cb], .agg #[.bool n2, .slice c lc.length cc, .slice d ld.length cd]] w fun e w' => RatF w w' e (n1 != n2) (val la * val lc) (val lb * val ld) := by
  obtain ⟨W, hW, B1, B2, B3, kW, hsz⟩ := lay3 w (.bool n1) (.slice a la.length ca) (.slice b lb.length cb) (.bool n2) (.slice c lc.length cc) (.slice d ld.length cd) (.bool false) (.slice none 0 0) (.slice none 0 0)
  have cL0 := fun wx (hk : Keep w wx) => rLen_any b cb lb wx hA.hcb (by have := hA.hlb; omega) (hA.hrb.keep hk) hA.hmb
  have w0 : lenB lb ≠ 0 := fun h => h0 ((lenB_nought hA.hmb).1 h)
  generalize lenB lb = N0 at cL0 w0
  have g0 : ((N0 : Int) == 0) = false := by simp; omega
  have cL1 := fun wx (hk : Keep w wx) => rLen_any d cd ld wx hB.hcb (by have := hB.hlb; omega) (hB.hrb.keep hk) hB.hmb
  have w1 : lenB ld ≠ 0 := fun h => h1 ((lenB_nought hB.hmb).1 h)
  generalize lenB ld = N1 at cL1 w1
  have g1 : ((N1 : Int) == 0) = false := by simp; omega
  have M1 := fun wx (hk : Keep w wx) => rMul_any a c ca cc la lc wx (by have := hA.hla; omega) (by have := hB.hla; omega) (by have := hA.hla; have := hB.hla; omega) (hA.hra.keep hk) (hB.hra.keep hk) hA.hma hB.hma
  have M2 := fun wx (hk : Keep w wx) => rMul_any b d cb cd lb ld wx (by have := hA.hlb; omega) (by have := hB.hlb; omega) (by have := hA.hlb; have := hB.hlb; omega) (hA.hrb.keep hk) (hB.hrb.keep hk) hA.hmb hB.hmb
  have q1 := hA.hla
  have q2 := hA.hlb
  have q3 := hB.hla
  have q4 := hB.hlb
  go_enter Tryd.func58, Tryd.ntmps58
  go_wp2_with fail
  rw [← hW]
  clear hW
  refine (cL0 W kW).mono ?_
  rintro e v0 ⟨rfl, j0⟩
  have B1 := B1.keep j0
  have B2 := B2.keep j0
  have B3 := B3.keep j0
  have kW0 := kW.trans j0
  obtain ⟨x0, x1, x2⟩ := B1.cells
  obtain ⟨x3, x4, x5⟩ := B2.cells
  obtain ⟨z0, z1, z2⟩ := B3.cells
  have f0 := B3.free 0
  have f1 := B3.free 1
  have f2 := B3.free 2
  go_wp2_with fail
  clear x0 x1 x2 x3 x4 x5 z0 z1 z2 f0 f1 f2
  refine (cL1 v0 kW0).mono ?_
  rintro e v1 ⟨rfl, j1⟩
  have B1 := B1.keep j1
  have B2 := B2.keep j1
  have B3 := B3.keep j1
  have kW01 := kW0.trans j1
  obtain ⟨x0, x1, x2⟩ := B1.cells
  obtain ⟨x3, x4, x5⟩ := B2.cells
  obtain ⟨z0, z1, z2⟩ := B3.cells
  have f0 := B3.free 0
  have f1 := B3.free 1
  have f2 := B3.free 2
  go_wp2_with fail
  clear x0 x1 x2 x3 x4 x5 z0 z1 z2 f0 f1 f2
  obtain ⟨x0, x1, x2⟩ := B1.cells
  obtain ⟨x3, x4, x5⟩ := B2.cells
  have Bd : Box v1.drew (w.heap.size + 1 + 1) (.bool false) (.slice none 0 0) (.slice none 0 0) := B3
  have kd : Keep w v1.drew := kW01.drew
  have hgw : w.heap.size ≤ w.heap.size + 1 + 1 := by omega
  obtain ⟨g, hg⟩ : ∃ g, w.heap.size = g := ⟨_, rfl⟩
  rw [hg] at x0 x1 x2 x3 x4 x5 Bd
  rw [show w.heap.size + 1 + 1 = g + 1 + 1 by omega] at hgw
  rw [hg]
  clear hg
  have hn1 : ¬ (g = g + 1 + 1) := by omega
  have hn2 : ¬ (g + 1 + 1 = g) := by omega
  clear cL0 cL1 B1 B2
  go_region_held3 (fun w' => w'.cell? ⟨g, 0, none⟩ = some (Value.bool n1) ∧ w'.cell? ⟨g, 1, none⟩ = some (Value.slice a la.length ca) ∧ w'.cell? ⟨g, 2, none⟩ = some (Value.slice b lb.length cb) ∧ w'.cell? ⟨g + 1, 0, none⟩ = some (Value.bool n2) ∧ w'.cell? ⟨g + 1, 1, none⟩ = some (Value.slice c lc.length cc) ∧ w'.cell? ⟨g + 1, 2, none⟩ = some (Value.slice d ld.length cd)) (go_keep) (first
    | (go_at_call_of 36 (Value.slice a la.length ca); refine (M1 _ ?_).mono ?_; exact kd; rintro e wA ⟨vA, lA, rfl, oA, mA, pA, eA, kA⟩; obtain ⟨aA, cA, rfl, hcA, rA⟩ := oA.shape; have jA := mul_few hA.hma hB.hma pA eA; have k1 := kd.trans kA; have BA := Bd.keep kA; have s0 := Keep.cell kA x0; have s1 := Keep.cell kA x1; have s2 := Keep.cell kA x2; have s3 := Keep.cell kA x3; have s4 := Keep.cell kA x4; have s5 := Keep.cell kA x5)
    | (go_at_call_of 36 (Value.slice b lb.length cb); refine (M2 _ ?_).mono ?_; exact k1; rintro e wB ⟨vB, lB, rfl, oB, mB, pB, eB, kB⟩; obtain ⟨aB, cB, rfl, hcB, rB⟩ := oB.shape; have jB := mul_few hA.hmb hB.hmb pB eB; have k2 := k1.trans kB; have BB := BA.keep kB; have rA2 := rA.keep kB; have t0 := Keep.cell kB s0; have t1 := Keep.cell kB s1; have t2 := Keep.cell kB s2; have t3 := Keep.cell kB s3; have t4 := Keep.cell kB s4; have t5 := Keep.cell kB s5)
    | (go_at_call 51; refine (rOver_form _ aA aB cA cB lA lB wB hcA hcB ?_ ?_ rA2 rB mA mB).mono ?_; omega; omega; rintro e wC hC; rw [eA, eB] at hC; obtain ⟨an, cn, ln, ad, cm, lm, rfl, hfin, kC⟩ := hC.box k2 hgw BB; have BC := BB.keep kC; obtain ⟨z0, z1, z2⟩ := BC.cells; have f0 := BC.free 0; have f1 := BC.free 1; have f2 := BC.free 2; have u0 := Keep.cell kC t0; have u1 := Keep.cell kC t1; have u2 := Keep.cell kC t2; have u3 := Keep.cell kC t3; have u4 := Keep.cell kC t4; have u5 := Keep.cell kC t5))
  go_simp
  go_wp2_with fail
  refine bodyPost_ret (v := .tuple #[.agg #[.bool _, .slice an ln.length cn, .slice ad lm.length cm], .int .i64 (RE (val lb * val ld))]) (by simp [results, Tryd.results58, go_sem, World.cell?_setCell_other, World.cell?_setCell_same, z0, z1, z2]) rfl (hfin _ _ _)
theorem rTimes_form (n1 n2 : Bool) (a b c d : Option Addr) (ca cb cc cd : Nat) (la lb lc ld : List Nat) (w : World) (hA : Arg2 w a ca la b cb lb) (hB : Arg2 w c cc lc d cd ld) :
    Calls Tryd.prog 58 #[.agg #[.bool n1, .slice a la.length ca, .slice b lb.length cb], .agg #[.bool n2, .slice c lc.length cc, .slice d ld.length cd]] w fun e w' => RatF w w' e (n1 != n2) (val la * val lc) (val lb * val ld) := by
  by_cases h0 : val lb = 0
  · refine (rTimes_none0 n1 n2 a b c d ca cb cc cd la lb lc ld w hA hB h0).mono ?_
    rintro e w' ⟨rfl, k⟩
    exact RatF.none (by rw [h0, Nat.zero_mul]) k
  · by_cases h1 : val ld = 0
    · refine (rTimes_none1 n1 n2 a b c d ca cb cc cd la lb lc ld w hA hB h0 h1).mono ?_
      rintro e w' ⟨rfl, k⟩
      exact RatF.none (by rw [h1, Nat.mul_zero]) k
    · exact rTimes_some n1 n2 a b c d ca cb cc cd la lb lc ld w hA hB h0 h1
set_option maxRecDepth 100000 in
set_option maxHeartbeats 400000 in
theorem rBy_none0 (n1 n2 : Bool) (a b c d : Option Addr) (ca cb cc cd : Nat) (la lb lc ld : List Nat) (w : World) (hA : Arg2 w a ca la b cb lb) (_hB : Arg2 w c cc lc d cd ld) (h0 : val lb = 0) :
    Calls Tryd.prog 59 #[.agg #[.bool n1, .slice a la.length ca, .slice b lb.length cb], .agg #[.bool n2, .slice c lc.length cc, .slice d ld.length cd]] w fun e w' => e = .returned (.tuple #[.agg #[.bool false, .slice none 0 0, .slice none 0 0], .int .i64 11]) ∧ Keep w w' := by
  obtain ⟨W, hW, B1, B2, B3, kW, hsz⟩ := lay3 w (.bool n1) (.slice a la.length ca) (.slice b lb.length cb) (.bool n2) (.slice c lc.length cc) (.slice d ld.length cd) (.bool false) (.slice none 0 0) (.slice none 0 0)
  have cL0 := fun wx (hk : Keep w wx) => rLen_any b cb lb wx hA.hcb (by have := hA.hlb; omega) (hA.hrb.keep hk) hA.hmb
  rw [(lenB_nought hA.hmb).2 h0] at cL0
  go_enter Tryd.func59, Tryd.ntmps59
  go_wp2_with fail
  rw [← hW]
  clear hW
  refine (cL0 W kW).mono ?_
  rintro e v0 ⟨rfl, j0⟩
  have B1 := B1.keep j0
  have B2 := B2.keep j0
  have B3 := B3.keep j0
  have kW0 := kW.trans j0
  obtain ⟨x0, x1, x2⟩ := B1.cells
  obtain ⟨x3, x4, x5⟩ := B2.cells
  obtain ⟨z0, z1, z2⟩ := B3.cells
  have f0 := B3.free 0
  have f1 := B3.free 1
  have f2 := B3.free 2
  go_wp2_with fail
  refine bodyPost_ret (v := .tuple #[.agg #[.bool false, .slice none 0 0, .slice none 0 0], .int .i64 11]) (by simp [results, Tryd.results59, go_sem, World.cell?_setCell_other, World.cell?_setCell_same, z0, z1, z2]) rfl ⟨rfl, ?_⟩
  exact ((kW0.setCell (by show _ ≤ w.heap.size + 1 + 1; omega) _).setCell (by show _ ≤ w.heap.size + 1 + 1; omega) _).setCell (by show _ ≤ w.heap.size + 1 + 1; omega) _
set_option maxRecDepth 100000 in
set_option maxHeartbeats 400000 in
theorem rBy_none1 (n1 n2 : Bool) (a b c d : Option Addr) (ca cb cc cd : Nat) (la lb lc ld : List Nat) (w : World) (hA : Arg2 w a ca la b cb lb) (hB : Arg2 w c cc lc d cd ld) (h0 : val lb ≠ 0) (h1 : val ld = 0) :
    Calls Tryd.prog 59 #[.agg #[.bool n1, .slice a la.length ca, .slice b lb.length cb], .agg #[.bool n2, .slice c lc.length cc, .slice d ld.length cd]] w fun e w' => e = .returned (.tuple #[.agg #[.bool false, .slice none 0 0, .slice none 0 0], .int .i64 11]) ∧ Keep w w' := by
  obtain ⟨W, hW, B1, B2, B3, kW, hsz⟩ := lay3 w (.bool n1) (.slice a la.length ca) (.slice b lb.length cb) (.bool n2) (.slice c lc.length cc) (.slice d ld.length cd) (.bool false) (.slice none 0 0) (.slice none 0 0)
  have cL0 := fun wx (hk : Keep w wx) => rLen_any b cb lb wx hA.hcb (by have := hA.hlb; omega) (hA.hrb.keep hk) hA.hmb
  have w0 : lenB lb ≠ 0 := fun h => h0 ((lenB_nought hA.hmb).1 h)
  generalize lenB lb = N0 at cL0 w0
  have g0 : ((N0 : Int) == 0) = false := by simp; omega
  have cL1 := fun wx (hk : Keep w wx) => rLen_any d cd ld wx hB.hcb (by have := hB.hlb; omega) (hB.hrb.keep hk) hB.hmb
  rw [(lenB_nought hB.hmb).2 h1] at cL1
  go_enter Tryd.func59, Tryd.ntmps59
  go_wp2_with fail
  rw [← hW]
  clear hW
  refine (cL0 W kW).mono ?_
  rintro e v0 ⟨rfl, j0⟩
  have B1 := B1.keep j0
  have B2 := B2.keep j0
  have B3 := B3.keep j0
  have kW0 := kW.trans j0
  obtain ⟨x0, x1, x2⟩ := B1.cells
  obtain ⟨x3, x4, x5⟩ := B2.cells
  obtain ⟨z0, z1, z2⟩ := B3.cells
  have f0 := B3.free 0
  have f1 := B3.free 1
  have f2 := B3.free 2
  go_wp2_with fail
  clear x0 x1 x2 x3 x4 x5 z0 z1 z2 f0 f1 f2
  refine (cL1 v0 kW0).mono ?_
  rintro e v1 ⟨rfl, j1⟩
  have B1 := B1.keep j1
  have B2 := B2.keep j1
  have B3 := B3.keep j1
  have kW01 := kW0.trans j1
  obtain ⟨x0, x1, x2⟩ := B1.cells
  obtain ⟨x3, x4, x5⟩ := B2.cells
  obtain ⟨z0, z1, z2⟩ := B3.cells
  have f0 := B3.free 0
  have f1 := B3.free 1
  have f2 := B3.free 2
  go_wp2_with fail
  refine bodyPost_ret (v := .tuple #[.agg #[.bool false, .slice none 0 0, .slice none 0 0], .int .i64 11]) (by simp [results, Tryd.results59, go_sem, World.cell?_setCell_other, World.cell?_setCell_same, z0, z1, z2]) rfl ⟨rfl, ?_⟩
  exact ((kW01.setCell (by show _ ≤ w.heap.size + 1 + 1; omega) _).setCell (by show _ ≤ w.heap.size + 1 + 1; omega) _).setCell (by show _ ≤ w.heap.size + 1 + 1; omega) _
set_option maxRecDepth 100000 in
set_option maxHeartbeats 400000 in
theorem rBy_none2 (n1 n2 : Bool) (a b c d : Option Addr) (ca cb cc cd : Nat) (la lb lc ld : List Nat) (w : World) (hA : Arg2 w a ca la b cb lb) (hB : Arg2 w c cc lc d cd ld) (h0 : val lb ≠ 0) (h1 : val ld ≠ 0) (h2 : val lc = 0) :
    Calls Tryd.prog 59 #[.agg #[.bool n1, .slice a la.length ca, .slice b lb.length cb], .agg #[.bool n2, .slice c lc.length cc, .slice d ld.length cd]] w fun e w' => e = .returned (.tuple #[.agg #[.bool false, .slice none 0 0, .slice none 0 0], .int .i64 11]) ∧ Keep w w' := by
  obtain ⟨W, hW, B1, B2, B3, kW, hsz⟩ := lay3 w (.bool n1) (.slice a la.length ca) (.slice b lb.length cb) (.bool n2) (.slice c lc.length cc) (.slice d ld.length cd) (.bool false) (.slice none 0 0) (.slice none 0 0)
  have cL0 := fun wx (hk : Keep w wx) => rLen_any b cb lb wx hA.hcb (by have := hA.hlb; omega) (hA.hrb.keep hk) hA.hmb
  have w0 : lenB lb ≠ 0 := fun h => h0 ((lenB_nought hA.hmb).1 h)
  generalize lenB lb = N0 at cL0 w0
  have g0 : ((N0 : Int) == 0) = false := by simp; omega
  have cL1 := fun wx (hk : Keep w wx) => rLen_any d cd ld wx hB.hcb (by have := hB.hlb; omega) (hB.hrb.keep hk) hB.hmb
  have w1 : lenB ld ≠ 0 := fun h => h1 ((lenB_nought hB.hmb).1 h)
  generalize lenB ld = N1 at cL1 w1
  have g1 : ((N1 : Int) == 0) = false := by simp; omega
  have cL2 := fun wx (hk : Keep w wx) => rLen_any c cc lc wx hB.hca (by have := hB.hla; omega) (hB.hra.keep hk) hB.hma
  rw [(lenB_nought hB.hma).2 h2] at cL2
  go_enter Tryd.func59, Tryd.ntmps59
  go_wp2_with fail
  rw [← hW]
  clear hW
  refine (cL0 W kW).mono ?_
  rintro e v0 ⟨rfl, j0⟩
  have B1 := B1.keep j0
  have B2 := B2.keep j0
  have B3 := B3.keep j0
  have kW0 := kW.trans j0
  obtain ⟨x0, x1, x2⟩ := B1.cells
  obtain ⟨x3, x4, x5⟩ := B2.cells
  obtain ⟨z0, z1, z2⟩ := B3.cells
  have f0 := B3.free 0
  have f1 := B3.free 1
  have f2 := B3.free 2
  go_wp2_with fail
  clear x0 x1 x2 x3 x4 x5 z0 z1 z2 f0 f1 f2
  refine (cL1 v0 kW0).mono ?_
  rintro e v1 ⟨rfl, j1⟩
  have B1 := B1.keep j1
  have B2 := B2.keep j1
  have B3 := B3.keep j1
  have kW01 := kW0.trans j1
  obtain ⟨x0, x1, x2⟩ := B1.cells
  obtain ⟨x3, x4, x5⟩ := B2.cells
  obtain ⟨z0, z1, z2⟩ := B3.cells
  have f0 := B3.free 0
  have f1 := B3.free 1
  have f2 := B3.free 2
  go_wp2_with fail
  clear x0 x1 x2 x3 x4 x5 z0 z1 z2 f0 f1 f2
  refine (cL2 v1 kW01).mono ?_
  rintro e v2 ⟨rfl, j2⟩
  have B1 := B1.keep j2
  have B2 := B2.keep j2
  have B3 := B3.keep j2
  have kW012 := kW01.trans j2
  obtain ⟨x0, x1, x2⟩ := B1.cells
  obtain ⟨x3, x4, x5⟩ := B2.cells
  obtain ⟨z0, z1, z2⟩ := B3.cells
  have f0 := B3.free 0
  have f1 := B3.free 1
  have f2 := B3.free 2
  go_wp2_with fail
  refine bodyPost_ret (v := .tuple #[.agg #[.bool false, .slice none 0 0, .slice none 0 0], .int .i64 11]) (by simp [results, Tryd.results59, go_sem, World.cell?_setCell_other, World.cell?_setCell_same, z0, z1, z2]) rfl ⟨rfl, ?_⟩
  exact ((kW012.setCell (by show _ ≤ w.heap.size + 1 + 1; omega) _).setCell (by show _ ≤ w.heap.size + 1 + 1; omega) _).setCell (by show _ ≤ w.heap.size + 1 + 1; omega) _
set_option maxRecDepth 100000 in
set_option maxHeartbeats 1600000 in
theorem rBy_some (n1 n2 : Bool) (a b c d : Option Addr) (ca cb cc cd : Nat) (la lb lc ld : List Nat) (w : World) (hA : Arg2 w a ca la b cb lb) (hB : Arg2 w c cc lc d cd ld) (h0 : val lb ≠ 0) (h1 : val ld ≠ 0) (h2 : val lc ≠ 0) :
    Calls Tryd.prog 59 #[.agg #[.bool n1, .slice a la.length ca, .slice b lb.length cb], .agg #[.bool n2, .slice c lc.length cc, .slice d ld.length cd]] w fun e w' => RatF w w' e (n1 != n2) (val la * val ld) (val lb * val lc) := by
  obtain ⟨W, hW, B1, B2, B3, kW, hsz⟩ := lay3 w (.bool n1) (.slice a la.length ca) (.slice b lb.length cb) (.bool n2) (.slice c lc.length cc) (.slice d ld.length cd) (.bool false) (.slice none 0 0) (.slice none 0 0)
  have cL0 := fun wx (hk : Keep w wx) => rLen_any b cb lb wx hA.hcb (by have := hA.hlb; omega) (hA.hrb.keep hk) hA.hmb
  have w0 : lenB lb ≠ 0 := fun h => h0 ((lenB_nought hA.hmb).1 h)
  generalize lenB lb = N0 at cL0 w0
  have g0 : ((N0 : Int) == 0) = false := by simp; omega
  have cL1 := fun wx (hk : Keep w wx) => rLen_any d cd ld wx hB.hcb (by have := hB.hlb; omega) (hB.hrb.keep hk) hB.hmb
  have w1 : lenB ld ≠ 0 := fun h => h1 ((lenB_nought hB.hmb).1 h)
  generalize lenB ld = N1 at cL1 w1
  have g1 : ((N1 : Int) == 0) = false := by simp; omega
  have cL2 := fun wx (hk : Keep w wx) => rLen_any c cc lc wx hB.hca (by have := hB.hla; omega) (hB.hra.keep hk) hB.hma
  have w2 : lenB lc ≠ 0 := fun h => h2 ((lenB_nought hB.hma).1 h)
  generalize lenB lc = N2 at cL2 w2
  have g2 : ((N2 : Int) == 0) = false := by simp; omega
  have M1 := fun wx (hk : Keep w wx) => rMul_any a d ca cd la ld wx (by have := hA.hla; omega) (by have := hB.hlb; omega) (by have := hA.hla; have := hB.hlb; omega) (hA.hra.keep hk) (hB.hrb.keep hk) hA.hma hB.hmb
  have M2 := fun wx (hk : Keep w wx) => rMul_any b c cb cc lb lc wx (by have := hA.hlb; omega) (by have := hB.hla; omega) (by have := hA.hlb; have := hB.hla; omega) (hA.hrb.keep hk) (hB.hra.keep hk) hA.hmb hB.hma
  have q1 := hA.hla
  have q2 := hA.hlb
  have q3 := hB.hla
  have q4 := hB.hlb
  go_enter Tryd.func59, Tryd.ntmps59
  go_wp2_with fail
  rw [← hW]
  clear hW
  refine (cL0 W kW).mono ?_
  rintro e v0 ⟨rfl, j0⟩
  have B1 := B1.keep j0
  have B2 := B2.keep j0
  have B3 := B3.keep j0
  have kW0 := kW.trans j0
  obtain ⟨x0, x1, x2⟩ := B1.cells
  obtain ⟨x3, x4, x5⟩ := B2.cells
  obtain ⟨z0, z1, z2⟩ := B3.cells
  have f0 := B3.free 0
  have f1 := B3.free 1
  have f2 := B3.free 2
  go_wp2_with fail
  clear x0 x1 x2 x3 x4 x5 z0 z1 z2 f0 f1 f2
  refine (cL1 v0 kW0).mono ?_
  rintro e v1 ⟨rfl, j1⟩
  have B1 := B1.keep j1
  have B2 := B2.keep j1
  have B3 := B3.keep j1
  have kW01 := kW0.trans j1
  obtain ⟨x0, x1, x2⟩ := B1.cells
  obtain ⟨x3, x4, x5⟩ := B2.cells
  obtain ⟨z0, z1, z2⟩ := B3.cells
  have f0 := B3.free 0
  have f1 := B3.free 1
  have f2 := B3.free 2
  go_wp2_with fail
  clear x0 x1 x2 x3 x4 x5 z0 z1 z2 f0 f1 f2
  refine (cL2 v1 kW01).mono ?_
  rintro e v2 ⟨rfl, j2⟩
  have B1 := B1.keep j2
  have B2 := B2.keep j2
  have B3 := B3.keep j2
  have kW012 := kW01.trans j2
  obtain ⟨x0, x1, x2⟩ := B1.cells
  obtain ⟨x3, x4, x5⟩ := B2.cells
  obtain ⟨z0, z1, z2⟩ := B3.cells
  have f0 := B3.free 0
  have f1 := B3.free 1
  have f2 := B3.free 2
  go_wp2_with fail
  clear x0 x1 x2 x3 x4 x5 z0 z1 z2 f0 f1 f2
  obtain ⟨x0, x1, x2⟩ := B1.cells
  obtain ⟨x3, x4, x5⟩ := B2.cells
  have Bd : Box v2.drew (w.heap.size + 1 + 1) (.bool false) (.slice none 0 0) (.slice none 0 0) := B3
  have kd : Keep w v2.drew := kW012.drew
  have hgw : w.heap.size ≤ w.heap.size + 1 + 1 := by omega
  obtain ⟨g, hg⟩ : ∃ g, w.heap.size = g := ⟨_, rfl⟩
  rw [hg] at x0 x1 x2 x3 x4 x5 Bd
  rw [show w.heap.size + 1 + 1 = g + 1 + 1 by omega] at hgw
  rw [hg]
  clear hg
  have hn1 : ¬ (g = g + 1 + 1) := by omega
  have hn2 : ¬ (g + 1 + 1 = g) := by omega
  clear cL0 cL1 cL2 B1 B2
  go_region_held3 (fun w' => w'.cell? ⟨g, 0, none⟩ = some (Value.bool n1) ∧ w'.cell? ⟨g, 1, none⟩ = some (Value.slice a la.length ca) ∧ w'.cell? ⟨g, 2, none⟩ = some (Value.slice b lb.length cb) ∧ w'.cell? ⟨g + 1, 0, none⟩ = some (Value.bool n2) ∧ w'.cell? ⟨g + 1, 1, none⟩ = some (Value.slice c lc.length cc) ∧ w'.cell? ⟨g + 1, 2, none⟩ = some (Value.slice d ld.length cd)) (go_keep) (first
    | (go_at_call_of 36 (Value.slice a la.length ca); refine (M1 _ ?_).mono ?_; exact kd; rintro e wA ⟨vA, lA, rfl, oA, mA, pA, eA, kA⟩; obtain ⟨aA, cA, rfl, hcA, rA⟩ := oA.shape; have jA := mul_few hA.hma hB.hmb pA eA; have k1 := kd.trans kA; have BA := Bd.keep kA; have s0 := Keep.cell kA x0; have s1 := Keep.cell kA x1; have s2 := Keep.cell kA x2; have s3 := Keep.cell kA x3; have s4 := Keep.cell kA x4; have s5 := Keep.cell kA x5)
    | (go_at_call_of 36 (Value.slice b lb.length cb); refine (M2 _ ?_).mono ?_; exact k1; rintro e wB ⟨vB, lB, rfl, oB, mB, pB, eB, kB⟩; obtain ⟨aB, cB, rfl, hcB, rB⟩ := oB.shape; have jB := mul_few hA.hmb hB.hma pB eB; have k2 := k1.trans kB; have BB := BA.keep kB; have rA2 := rA.keep kB; have t0 := Keep.cell kB s0; have t1 := Keep.cell kB s1; have t2 := Keep.cell kB s2; have t3 := Keep.cell kB s3; have t4 := Keep.cell kB s4; have t5 := Keep.cell kB s5)
    | (go_at_call 51; refine (rOver_form _ aA aB cA cB lA lB wB hcA hcB ?_ ?_ rA2 rB mA mB).mono ?_; omega; omega; rintro e wC hC; rw [eA, eB] at hC; obtain ⟨an, cn, ln, ad, cm, lm, rfl, hfin, kC⟩ := hC.box k2 hgw BB; have BC := BB.keep kC; obtain ⟨z0, z1, z2⟩ := BC.cells; have f0 := BC.free 0; have f1 := BC.free 1; have f2 := BC.free 2; have u0 := Keep.cell kC t0; have u1 := Keep.cell kC t1; have u2 := Keep.cell kC t2; have u3 := Keep.cell kC t3; have u4 := Keep.cell kC t4; have u5 := Keep.cell kC t5))
  go_simp
  go_wp2_with fail
  refine bodyPost_ret (v := .tuple #[.agg #[.bool _, .slice an ln.length cn, .slice ad lm.length cm], .int .i64 (RE (val lb * val lc))]) (by simp [results, Tryd.results59, go_sem, World.cell?_setCell_other, World.cell?_setCell_same, z0, z1, z2]) rfl (hfin _ _ _)
theorem rBy_form (n1 n2 : Bool) (a b c d : Option Addr) (ca cb cc cd : Nat) (la lb lc ld : List Nat) (w : World) (hA : Arg2 w a ca la b cb lb) (hB : Arg2 w c cc lc d cd ld) :
    Calls Tryd.prog 59 #[.agg #[.bool n1, .slice a la.length ca, .slice b lb.length cb], .agg #[.bool n2, .slice c lc.length cc, .slice d ld.length cd]] w fun e w' => RatF w w' e (n1 != n2) (val la * val ld) (if val ld = 0 then 0 else val lb * val lc) := by
  by_cases h0 : val lb = 0
  · refine (rBy_none0 n1 n2 a b c d ca cb cc cd la lb lc ld w hA hB h0).mono ?_
    rintro e w' ⟨rfl, k⟩
    exact RatF.none (by rw [h0, Nat.zero_mul]; split <;> rfl) k
  · by_cases h1 : val ld = 0
    · refine (rBy_none1 n1 n2 a b c d ca cb cc cd la lb lc ld w hA hB h0 h1).mono ?_
      rintro e w' ⟨rfl, k⟩
      exact RatF.none (by rw [if_pos h1]) k
    · rw [if_neg h1]
      by_cases h2 : val lc = 0
      · refine (rBy_none2 n1 n2 a b c d ca cb cc cd la lb lc ld w hA hB h0 h1 h2).mono ?_
        rintro e w' ⟨rfl, k⟩
        exact RatF.none (by rw [h2, Nat.mul_zero]) k
      · exact rBy_some n1 n2 a b c d ca cb cc cd la lb lc ld w hA hB h0 h1 h2
end Go.Proofs.YtbjidpooociamaaDoor
namespace Go.Proofs.YtbjidpooociamaaDoor
open Go.RowKit Lb
set_option maxRecDepth 100000 in
set_option maxHeartbeats 800000 in
theorem crossed_any (n1 n2 : Bool) (a b c d : Option Addr) (ca cb cc cd : Nat) (la lb lc ld : List Nat) (w : World) (hA : Arg2 w a ca la b cb lb) (hB : Arg2 w c cc lc d cd ld) :
    Calls Tryd.prog 86 #[.agg #[.bool n1, .slice a la.length ca, .slice b lb.length cb], .agg #[.bool n2, .slice c lc.length cc, .slice d ld.length cd]] w fun e w' => ∃ vA vB, e = .returned (.tuple #[vA, vB]) ∧ NatR w.heap.size w' vA (val la * val ld) ∧ NatR w.heap.size w' vB (val lc * val lb) ∧ Keep w w' := by
  obtain ⟨W, hW, B1, B2, kW⟩ := lay2 w (.bool n1) (.slice a la.length ca) (.slice b lb.length cb) (.bool n2) (.slice c lc.length cc) (.slice d ld.length cd)
  have M1 := fun wx (hk : Keep w wx) => Mul_any a d ca cd la ld wx hA.hca hB.hcb (by have := hA.hla; omega) (by have := hB.hlb; omega) (hA.hra.keep hk) (hB.hrb.keep hk) hA.hma hB.hmb
  have M2 := fun wx (hk : Keep w wx) => Mul_any c b cc cb lc lb wx hB.hca hA.hcb (by have := hB.hla; omega) (by have := hA.hlb; omega) (hB.hra.keep hk) (hA.hrb.keep hk) hB.hma hA.hmb
  go_enter Tryd.func86, Tryd.ntmps86
  go_wp2_with fail
  rw [← hW]
  clear hW
  obtain ⟨x0, x1, x2⟩ := B1.cells
  obtain ⟨x3, x4, x5⟩ := B2.cells
  have kd : Keep w W.drew := kW.drew
  obtain ⟨g, hg⟩ : ∃ g, w.heap.size = g := ⟨_, rfl⟩
  have hgl : Hid (w.heap.size = g) := hg
  rw [hg] at x0 x1 x2 x3 x4 x5
  rw [hg]
  clear hg B1 B2
  go_region_held3 (fun w' => w'.cell? ⟨g, 1, none⟩ = some (Value.slice a la.length ca) ∧ w'.cell? ⟨g, 2, none⟩ = some (Value.slice b lb.length cb) ∧ w'.cell? ⟨g + 1, 1, none⟩ = some (Value.slice c lc.length cc) ∧ w'.cell? ⟨g + 1, 2, none⟩ = some (Value.slice d ld.length cd)) (go_keep) (first
    | (go_at_call_of 35 (Value.slice a la.length ca); refine (M1 _ ?_).mono ?_; exact kd; rintro e wA ⟨vA, rfl, nA, kA⟩; have nA' := nA.natR; obtain ⟨aA, cA, lA, rfl, -⟩ := nA.natR.shape; have k1 := kd.trans kA; have s1 := Keep.cell kA x1; have s2 := Keep.cell kA x2; have s4 := Keep.cell kA x4; have s5 := Keep.cell kA x5)
    | (go_at_call_of 35 (Value.slice c lc.length cc); refine (M2 _ ?_).mono ?_; exact k1; rintro e wB ⟨vB, rfl, nB, kB⟩; have nB' := nB.natR; obtain ⟨aB, cB, lB, rfl, -⟩ := nB.natR.shape; have k2 := k1.trans kB; have t1 := Keep.cell kB s1; have t2 := Keep.cell kB s2; have t4 := Keep.cell kB s4; have t5 := Keep.cell kB s5))
  go_simp
  go_wp2_with fail
  go_ret2
  exact ⟨_, _, rfl, (nA'.keep kB).mono kd.le, nB'.mono k1.le, k2⟩
end Go.Proofs.YtbjidpooociamaaDoor
