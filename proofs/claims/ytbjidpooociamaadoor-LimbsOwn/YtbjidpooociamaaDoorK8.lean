import Derived.Test.YtbjidpooociamaaDoorK7
set_option linter.unusedVariables false
set_option linter.unusedSimpArgs false
namespace Go.Proofs.YtbjidpooociamaaDoor
open Go.RowKit Lb
set_option maxRecDepth 100000 in
set_option maxHeartbeats 400000 in
theorem rPlus_none0 (n1 n2 : Bool) (a b c d : Option Addr) (ca cb cc cd : Nat) (la lb lc ld : List Nat) (w : World) (hA : Arg2 w a ca la b cb lb) (_hB : Arg2 w c cc lc d cd ld) (h0 : val lb = 0) :
    Calls Tryd.prog 56 #[.agg #[.bool n1, .slice a la.length ca, .slice b lb.length cb], .agg #[.bool n2, .slice c lc.length cc, .slice d ld.length cd]] w fun e w' => e = .returned (.tuple #[.agg #[.bool false, .slice none 0 0, .slice none 0 0], .int .i64 11]) ∧ Keep w w' := by
  obtain ⟨W, hW, B1, B2, B3, kW, hsz⟩ := lay3 w (.bool n1) (.slice a la.length ca) (.slice b lb.length cb) (.bool n2) (.slice c lc.length cc) (.slice d ld.length cd) (.bool false) (.slice none 0 0) (.slice none 0 0)
  have cL0 := fun wx (hk : Keep w wx) => rLen_any b cb lb wx hA.hcb (by have := hA.hlb; omega) (hA.hrb.keep hk) hA.hmb
  rw [(lenB_nought hA.hmb).2 h0] at cL0
  go_enter Tryd.func56, Tryd.ntmps56
  go_wp2_with fail
  rw [← hW]
  clear hW
  refine (cL0 W kW).mono ?_
  rintro e v0 ⟨rfl, j0⟩
  have B1 := B1.keep j0
  have B2 := B2.keep j0
  have B3 := B3.keep j0
  have kW0 := kW.trans j0
  obtain ⟨x0, x1, x2⟩ := B1.cells
  obtain ⟨x3, x4, x5⟩ := B2.cells
  obtain ⟨z0, z1, z2⟩ := B3.cells
  have f0 := B3.free 0
  have f1 := B3.free 1
  have f2 := B3.free 2
  go_wp2_with fail
  refine bodyPost_ret (v := .tuple #[.agg #[.bool false, .slice none 0 0, .slice none 0 0], .int .i64 11]) (by simp [results, Tryd.results56, go_sem, World.cell?_setCell_other, World.cell?_setCell_same, z0, z1, z2]) rfl ⟨rfl, ?_⟩
  exact ((kW0.setCell (by show _ ≤ w.heap.size + 1 + 1; omega) _).setCell (by show _ ≤ w.heap.size + 1 + 1; omega) _).setCell (by show _ ≤ w.heap.size + 1 + 1; omega) _
set_option maxRecDepth 100000 in
set_option maxHeartbeats 400000 in
theorem rPlus_none1 (n1 n2 : Bool) (a b c d : Option Addr) (ca cb cc cd : Nat) (la lb lc ld : List Nat) (w : World) (hA : Arg2 w a ca la b cb lb) (hB : Arg2 w c cc lc d cd ld) (h0 : val lb ≠ 0) (h1 : val ld = 0) :
    Calls Tryd.prog 56 #[.agg #[.bool n1, .slice a la.length ca, .slice b lb.length cb], .agg #[.bool n2, .slice c lc.length cc, .slice d ld.length cd]] w fun e w' => e = .returned (.tuple #[.agg #[.bool false, .slice none 0 0, .slice none 0 0], .int .i64 11]) ∧ Keep w w' := by
  obtain ⟨W, hW, B1, B2, B3, kW, hsz⟩ := lay3 w (.bool n1) (.slice a la.length ca) (.slice b lb.length cb) (.bool n2) (.slice c lc.length cc) (.slice d ld.length cd) (.bool false) (.slice none 0 0) (.slice none 0 0)
  have cL0 := fun wx (hk : Keep w wx) => rLen_any b cb lb wx hA.hcb (by have := hA.hlb; omega) (hA.hrb.keep hk) hA.hmb
  have w0 : lenB lb ≠ 0 := fun h => h0 ((lenB_nought hA.hmb).1 h)
  generalize lenB lb = N0 at cL0 w0
  have g0 : ((N0 : Int) == 0) = false := by simp; omega
  have cL1 := fun wx (hk : Keep w wx) => rLen_any d cd ld wx hB.hcb (by have := hB.hlb; omega) (hB.hrb.keep hk) hB.hmb
  rw [(lenB_nought hB.hmb).2 h1] at cL1
  go_enter Tryd.func56, Tryd.ntmps56
  go_wp2_with fail
  rw [← hW]
  clear hW
  refine (cL0 W kW).mono ?_
  rintro e v0 ⟨rfl, j0⟩
  have B1 := B1.keep j0
  have B2 := B2.keep j0
  have B3 := B3.keep j0
  have kW0 := kW.trans j0
  obtain ⟨x0, x1, x2⟩ := B1.cells
  obtain ⟨x3, x4, x5⟩ := B2.cells
  obtain ⟨z0, z1, z2⟩ := B3.cells
  have f0 := B3.free 0
  have f1 := B3.free 1
  have f2 := B3.free 2
  go_wp2_with fail
  clear x0 x1 x2 x3 x4 x5 z0 z1 z2 f0 f1 f2
  refine (cL1 v0 kW0).mono ?_
  rintro e v1 ⟨rfl, j1⟩
  have B1 := B1.keep j1
  have B2 := B2.keep j1
  have B3 := B3.keep j1
  have kW01 := kW0.trans j1
  obtain ⟨x0, x1, x2⟩ := B1.cells
  obtain ⟨x3, x4, x5⟩ := B2.cells
  obtain ⟨z0, z1, z2⟩ := B3.cells
  have f0 := B3.free 0
  have f1 := B3.free 1
  have f2 := B3.free 2
  go_wp2_with fail
  refine bodyPost_ret (v := .tuple #[.agg #[.bool false, .slice none 0 0, .slice none 0 0], .int .i64 11]) (by simp [results, Tryd.results56, go_sem, World.cell?_setCell_other, World.cell?_setCell_same, z0, z1, z2]) rfl ⟨rfl, ?_⟩
  exact ((kW01.setCell (by show _ ≤ w.heap.size + 1 + 1; omega) _).setCell (by show _ ≤ w.heap.size + 1 + 1; omega) _).setCell (by show _ ≤ w.heap.size + 1 + 1; omega) _
set_option maxRecDepth 100000 in
set_option maxHeartbeats 1600000 in
theorem rPlus_like (n1 n2 : Bool) (a b c d : Option Addr) (ca cb cc cd : Nat) (la lb lc ld : List Nat) (w : World) (hA : Arg2 w a ca la b cb lb) (hB : Arg2 w c cc lc d cd ld) (h0 : val lb ≠ 0) (h1 : val ld ≠ 0) (hn : n1 = n2) :
    Calls Tryd.prog 56 #[.agg #[.bool n1, .slice a la.length ca, .slice b lb.length cb], .agg #[.bool n2, .slice c lc.length cc, .slice d ld.length cd]] w fun e w' => RatF w w' e n1 (val la * val ld + val lc * val lb) (val lb * val ld) := by
  subst hn
  obtain ⟨W, hW, B1, B2, B3, kW, hsz⟩ := lay3 w (.bool n1) (.slice a la.length ca) (.slice b lb.length cb) (.bool n1) (.slice c lc.length cc) (.slice d ld.length cd) (.bool false) (.slice none 0 0) (.slice none 0 0)
  have cL0 := fun wx (hk : Keep w wx) => rLen_any b cb lb wx hA.hcb (by have := hA.hlb; omega) (hA.hrb.keep hk) hA.hmb
  have w0 : lenB lb ≠ 0 := fun h => h0 ((lenB_nought hA.hmb).1 h)
  generalize lenB lb = N0 at cL0 w0
  have g0 : ((N0 : Int) == 0) = false := by simp; omega
  have cL1 := fun wx (hk : Keep w wx) => rLen_any d cd ld wx hB.hcb (by have := hB.hlb; omega) (hB.hrb.keep hk) hB.hmb
  have w1 : lenB ld ≠ 0 := fun h => h1 ((lenB_nought hB.hmb).1 h)
  generalize lenB ld = N1 at cL1 w1
  have g1 : ((N1 : Int) == 0) = false := by simp; omega
  have M1 := fun wx (hk : Keep w wx) => rMul_any a d ca cd la ld wx (by have := hA.hla; omega) (by have := hB.hlb; omega) (by have := hA.hla; have := hB.hlb; omega) (hA.hra.keep hk) (hB.hrb.keep hk) hA.hma hB.hmb
  have M2 := fun wx (hk : Keep w wx) => rMul_any c b cc cb lc lb wx (by have := hB.hla; omega) (by have := hA.hlb; omega) (by have := hB.hla; have := hA.hlb; omega) (hB.hra.keep hk) (hA.hrb.keep hk) hB.hma hA.hmb
  have M3 := fun wx (hk : Keep w wx) => rMul_any b d cb cd lb ld wx (by have := hA.hlb; omega) (by have := hB.hlb; omega) (by have := hA.hlb; have := hB.hlb; omega) (hA.hrb.keep hk) (hB.hrb.keep hk) hA.hmb hB.hmb
  have q1 := hA.hla
  have q2 := hA.hlb
  have q3 := hB.hla
  have q4 := hB.hlb
  go_enter Tryd.func56, Tryd.ntmps56
  go_wp2_with fail
  rw [← hW]
  clear hW
  refine (cL0 W kW).mono ?_
  rintro e v0 ⟨rfl, j0⟩
  have B1 := B1.keep j0
  have B2 := B2.keep j0
  have B3 := B3.keep j0
  have kW0 := kW.trans j0
  obtain ⟨x0, x1, x2⟩ := B1.cells
  obtain ⟨x3, x4, x5⟩ := B2.cells
  obtain ⟨z0, z1, z2⟩ := B3.cells
  have f0 := B3.free 0
  have f1 := B3.free 1
  have f2 := B3.free 2
  go_wp2_with fail
  clear x0 x1 x2 x3 x4 x5 z0 z1 z2 f0 f1 f2
  refine (cL1 v0 kW0).mono ?_
  rintro e v1 ⟨rfl, j1⟩
  have B1 := B1.keep j1
  have B2 := B2.keep j1
  have B3 := B3.keep j1
  have kW01 := kW0.trans j1
  obtain ⟨x0, x1, x2⟩ := B1.cells
  obtain ⟨x3, x4, x5⟩ := B2.cells
  obtain ⟨z0, z1, z2⟩ := B3.cells
  have f0 := B3.free 0
  have f1 := B3.free 1
  have f2 := B3.free 2
  go_wp2_with fail
  clear x0 x1 x2 x3 x4 x5 z0 z1 z2 f0 f1 f2
  obtain ⟨x0, x1, x2⟩ := B1.cells
  obtain ⟨x3, x4, x5⟩ := B2.cells
  have Bd : Box v1.drew (w.heap.size + 1 + 1) (.bool false) (.slice none 0 0) (.slice none 0 0) := B3
  have kd : Keep w v1.drew := kW01.drew
  have hgw : w.heap.size ≤ w.heap.size + 1 + 1 := by omega
  obtain ⟨g, hg⟩ : ∃ g, w.heap.size = g := ⟨_, rfl⟩
  rw [hg] at x0 x1 x2 x3 x4 x5 Bd
  rw [show w.heap.size + 1 + 1 = g + 1 + 1 by omega] at hgw
  rw [hg]
  clear hg
  have hn1 : ¬ (g = g + 1 + 1) := by omega
  have hn2 : ¬ (g + 1 + 1 = g) := by omega
  clear cL0 cL1 B1 B2
  go_region_held3 (fun w' => w'.cell? ⟨g, 0, none⟩ = some (Value.bool n1) ∧ w'.cell? ⟨g, 1, none⟩ = some (Value.slice a la.length ca) ∧ w'.cell? ⟨g, 2, none⟩ = some (Value.slice b lb.length cb) ∧ w'.cell? ⟨g + 1, 0, none⟩ = some (Value.bool n1) ∧ w'.cell? ⟨g + 1, 1, none⟩ = some (Value.slice c lc.length cc) ∧ w'.cell? ⟨g + 1, 2, none⟩ = some (Value.slice d ld.length cd)) (go_keep) (first
    | (go_at_call_of 36 (Value.slice a la.length ca); refine (M1 _ ?_).mono ?_; exact kd; rintro e wL ⟨vL, lL, rfl, oL, mL, pL, eL, kL⟩; obtain ⟨aL, cL, rfl, hcL, rL⟩ := oL.shape; have jL := mul_few hA.hma hB.hmb pL eL; have kkL := kd.trans kL; have BL := Bd.keep kL; have s0 := Keep.cell kL x0; have s1 := Keep.cell kL x1; have s2 := Keep.cell kL x2; have s3 := Keep.cell kL x3; have s4 := Keep.cell kL x4; have s5 := Keep.cell kL x5)
    | (go_at_call_of 36 (Value.slice c lc.length cc); refine (M2 _ ?_).mono ?_; exact kkL; rintro e wR ⟨vR, lR, rfl, oR, mR, pR, eR, kR⟩; obtain ⟨aR, cR, rfl, hcR, rR⟩ := oR.shape; have jR := mul_few hB.hma hA.hmb pR eR; have kkR := kkL.trans kR; have BR := BL.keep kR; have rL2 := rL.keep kR; have t0 := Keep.cell kR s0; have t1 := Keep.cell kR s1; have t2 := Keep.cell kR s2; have t3 := Keep.cell kR s3; have t4 := Keep.cell kR s4; have t5 := Keep.cell kR s5)
    | (go_at_call_of 36 (Value.slice b lb.length cb); refine (M3 _ ?_).mono ?_; exact kkR; rintro e wD ⟨vD, lD, rfl, oD, mD, pD, eD, kD⟩; obtain ⟨aD, cD, rfl, hcD, rD⟩ := oD.shape; have jD := mul_few hA.hmb hB.hmb pD eD; have kkD := kkR.trans kD; have BD := BR.keep kD; have rL3 := rL2.keep kD; have rR3 := rR.keep kD; have u0 := Keep.cell kD t0; have u1 := Keep.cell kD t1; have u2 := Keep.cell kD t2; have u3 := Keep.cell kD t3; have u4 := Keep.cell kD t4; have u5 := Keep.cell kD t5))
  go_simp
  go_wp2_with fail
  have Be : Box wD.drew (g + 1 + 1) (.bool false) (.slice none 0 0) (.slice none 0 0) := BD
  have ke : Keep w wD.drew := kkD.drew
  go_region_held3 (fun w' => w'.cell? ⟨g, 0, none⟩ = some (Value.bool n1)) (go_keep) (first
    | (go_at_call 34; refine (rAdd_any aL aR cL cR lL lR _ ?_ ?_ ?_ ?_ mL mR).mono ?_; omega; omega; exact rL3; exact rR3; rintro e wS ⟨vS, lS, rfl, oS, mS, pS, eS, kS⟩; obtain ⟨aS, cS, rfl, hcS, rS⟩ := oS.shape; have jS := sum_few mL mR pS eS; rw [eL, eR] at eS; have k2 := ke.trans kS; have BS := Be.keep kS; have rD2 := rD.keep ((Keep.refl wD).drew.trans kS); have s0 := Keep.cell kS u0)
    | (go_at_call 51; refine (rOver_form _ aS aD cS cD lS lD wS hcS hcD ?_ ?_ rS rD2 mS mD).mono ?_; omega; omega; rintro e wC hC; rw [eS, eD] at hC; obtain ⟨an, cn, ln, ad, cm, lm, rfl, hfin, kC⟩ := hC.box k2 hgw BS; have BC := BS.keep kC; obtain ⟨z0, z1, z2⟩ := BC.cells; have f0 := BC.free 0; have f1 := BC.free 1; have f2 := BC.free 2; have t0 := Keep.cell kC s0))
  go_simp
  go_wp2_with fail
  refine bodyPost_ret (v := .tuple #[.agg #[.bool _, .slice an ln.length cn, .slice ad lm.length cm], .int .i64 (RE (val lb * val ld))]) (by simp [results, Tryd.results56, go_sem, World.cell?_setCell_other, World.cell?_setCell_same, z0, z1, z2]) rfl (hfin _ _ _)
set_option maxRecDepth 100000 in
set_option maxHeartbeats 1600000 in
theorem rPlus_more (n1 n2 : Bool) (a b c d : Option Addr) (ca cb cc cd : Nat) (la lb lc ld : List Nat) (w : World) (hA : Arg2 w a ca la b cb lb) (hB : Arg2 w c cc lc d cd ld) (h0 : val lb ≠ 0) (h1 : val ld ≠ 0) (hn : n1 ≠ n2) (hle : val lc * val lb ≤ val la * val ld) :
    Calls Tryd.prog 56 #[.agg #[.bool n1, .slice a la.length ca, .slice b lb.length cb], .agg #[.bool n2, .slice c lc.length cc, .slice d ld.length cd]] w fun e w' => RatF w w' e n1 (val la * val ld - val lc * val lb) (val lb * val ld) := by
  obtain ⟨W, hW, B1, B2, B3, kW, hsz⟩ := lay3 w (.bool n1) (.slice a la.length ca) (.slice b lb.length cb) (.bool n2) (.slice c lc.length cc) (.slice d ld.length cd) (.bool false) (.slice none 0 0) (.slice none 0 0)
  have cL0 := fun wx (hk : Keep w wx) => rLen_any b cb lb wx hA.hcb (by have := hA.hlb; omega) (hA.hrb.keep hk) hA.hmb
  have w0 : lenB lb ≠ 0 := fun h => h0 ((lenB_nought hA.hmb).1 h)
  generalize lenB lb = N0 at cL0 w0
  have g0 : ((N0 : Int) == 0) = false := by simp; omega
  have cL1 := fun wx (hk : Keep w wx) => rLen_any d cd ld wx hB.hcb (by have := hB.hlb; omega) (hB.hrb.keep hk) hB.hmb
  have w1 : lenB ld ≠ 0 := fun h => h1 ((lenB_nought hB.hmb).1 h)
  generalize lenB ld = N1 at cL1 w1
  have g1 : ((N1 : Int) == 0) = false := by simp; omega
  have M1 := fun wx (hk : Keep w wx) => rMul_any a d ca cd la ld wx (by have := hA.hla; omega) (by have := hB.hlb; omega) (by have := hA.hla; have := hB.hlb; omega) (hA.hra.keep hk) (hB.hrb.keep hk) hA.hma hB.hmb
  have M2 := fun wx (hk : Keep w wx) => rMul_any c b cc cb lc lb wx (by have := hB.hla; omega) (by have := hA.hlb; omega) (by have := hB.hla; have := hA.hlb; omega) (hB.hra.keep hk) (hA.hrb.keep hk) hB.hma hA.hmb
  have M3 := fun wx (hk : Keep w wx) => rMul_any b d cb cd lb ld wx (by have := hA.hlb; omega) (by have := hB.hlb; omega) (by have := hA.hlb; have := hB.hlb; omega) (hA.hrb.keep hk) (hB.hrb.keep hk) hA.hmb hB.hmb
  have q1 := hA.hla
  have q2 := hA.hlb
  have q3 := hB.hla
  have q4 := hB.hlb
  go_enter Tryd.func56, Tryd.ntmps56
  go_wp2_with fail
  rw [← hW]
  clear hW
  refine (cL0 W kW).mono ?_
  rintro e v0 ⟨rfl, j0⟩
  have B1 := B1.keep j0
  have B2 := B2.keep j0
  have B3 := B3.keep j0
  have kW0 := kW.trans j0
  obtain ⟨x0, x1, x2⟩ := B1.cells
  obtain ⟨x3, x4, x5⟩ := B2.cells
  obtain ⟨z0, z1, z2⟩ := B3.cells
  have f0 := B3.free 0
  have f1 := B3.free 1
  have f2 := B3.free 2
  go_wp2_with fail
  clear x0 x1 x2 x3 x4 x5 z0 z1 z2 f0 f1 f2
  refine (cL1 v0 kW0).mono ?_
  rintro e v1 ⟨rfl, j1⟩
  have B1 := B1.keep j1
  have B2 := B2.keep j1
  have B3 := B3.keep j1
  have kW01 := kW0.trans j1
  obtain ⟨x0, x1, x2⟩ := B1.cells
  obtain ⟨x3, x4, x5⟩ := B2.cells
  obtain ⟨z0, z1, z2⟩ := B3.cells
  have f0 := B3.free 0
  have f1 := B3.free 1
  have f2 := B3.free 2
  go_wp2_with fail
  clear x0 x1 x2 x3 x4 x5 z0 z1 z2 f0 f1 f2
  obtain ⟨x0, x1, x2⟩ := B1.cells
  obtain ⟨x3, x4, x5⟩ := B2.cells
  have Bd : Box v1.drew (w.heap.size + 1 + 1) (.bool false) (.slice none 0 0) (.slice none 0 0) := B3
  have kd : Keep w v1.drew := kW01.drew
  have hgw : w.heap.size ≤ w.heap.size + 1 + 1 := by omega
  obtain ⟨g, hg⟩ : ∃ g, w.heap.size = g := ⟨_, rfl⟩
  rw [hg] at x0 x1 x2 x3 x4 x5 Bd
  rw [show w.heap.size + 1 + 1 = g + 1 + 1 by omega] at hgw
  rw [hg]
  clear hg
  have hn1 : ¬ (g = g + 1 + 1) := by omega
  have hn2 : ¬ (g + 1 + 1 = g) := by omega
  clear cL0 cL1 B1 B2
  go_region_held3 (fun w' => w'.cell? ⟨g, 0, none⟩ = some (Value.bool n1) ∧ w'.cell? ⟨g, 1, none⟩ = some (Value.slice a la.length ca) ∧ w'.cell? ⟨g, 2, none⟩ = some (Value.slice b lb.length cb) ∧ w'.cell? ⟨g + 1, 0, none⟩ = some (Value.bool n2) ∧ w'.cell? ⟨g + 1, 1, none⟩ = some (Value.slice c lc.length cc) ∧ w'.cell? ⟨g + 1, 2, none⟩ = some (Value.slice d ld.length cd)) (go_keep) (first
    | (go_at_call_of 36 (Value.slice a la.length ca); refine (M1 _ ?_).mono ?_; exact kd; rintro e wL ⟨vL, lL, rfl, oL, mL, pL, eL, kL⟩; obtain ⟨aL, cL, rfl, hcL, rL⟩ := oL.shape; have jL := mul_few hA.hma hB.hmb pL eL; have kkL := kd.trans kL; have BL := Bd.keep kL; have s0 := Keep.cell kL x0; have s1 := Keep.cell kL x1; have s2 := Keep.cell kL x2; have s3 := Keep.cell kL x3; have s4 := Keep.cell kL x4; have s5 := Keep.cell kL x5)
    | (go_at_call_of 36 (Value.slice c lc.length cc); refine (M2 _ ?_).mono ?_; exact kkL; rintro e wR ⟨vR, lR, rfl, oR, mR, pR, eR, kR⟩; obtain ⟨aR, cR, rfl, hcR, rR⟩ := oR.shape; have jR := mul_few hB.hma hA.hmb pR eR; have kkR := kkL.trans kR; have BR := BL.keep kR; have rL2 := rL.keep kR; have t0 := Keep.cell kR s0; have t1 := Keep.cell kR s1; have t2 := Keep.cell kR s2; have t3 := Keep.cell kR s3; have t4 := Keep.cell kR s4; have t5 := Keep.cell kR s5)
    | (go_at_call_of 36 (Value.slice b lb.length cb); refine (M3 _ ?_).mono ?_; exact kkR; rintro e wD ⟨vD, lD, rfl, oD, mD, pD, eD, kD⟩; obtain ⟨aD, cD, rfl, hcD, rD⟩ := oD.shape; have jD := mul_few hA.hmb hB.hmb pD eD; have kkD := kkR.trans kD; have BD := BR.keep kD; have rL3 := rL2.keep kD; have rR3 := rR.keep kD; have u0 := Keep.cell kD t0; have u1 := Keep.cell kD t1; have u2 := Keep.cell kD t2; have u3 := Keep.cell kD t3; have u4 := Keep.cell kD t4; have u5 := Keep.cell kD t5))
  have hnn : (n1 == n2) = false := by cases n1 <;> cases n2 <;> simp_all
  have hvge : val lR ≤ val lL := by rw [eL, eR]; omega
  have hcp := rCmp_any aL aR cL cR lL lR wD hcL hcR (by omega) (by omega) rL3 rR3
  rw [cmpL_eq _ _ (Lim_take mL _) (Lim_take mR _) (Nrm_take lL) (Nrm_take lR), val_take_nl, val_take_nl, eL, eR] at hcp
  have hz : 0 ≤ cmpN (val la * val ld) (val lc * val lb) := by unfold cmpN; rw [if_neg (by omega)]; split <;> omega
  generalize cmpN (val la * val ld) (val lc * val lb) = z at hcp hz
  have hgz : decide (0 ≤ z) = true := by simp; omega
  go_simp
  go_wp2_with fail
  refine hcp.mono ?_
  rintro e wP ⟨rfl, kP⟩
  clear hcp
  have kP' := kkD.trans kP
  have hS := rSub_any aL aR cL cR lL lR wP hcL hcR (by omega) (by omega) (rL3.keep kP) (rR3.keep kP) mL mR
  go_wp2_with fail
  refine hS.mono ?_
  rintro e wS ⟨hor, kS⟩
  obtain ⟨vS, lS, rfl, oS, mS, pS, eS⟩ : ∃ v l, e = .returned (.tuple #[v, .int .i64 0]) ∧ Own wP.heap.size wS v l ∧ Lim l ∧ Nrm l ∧ val l = val lL - val lR := by rcases hor with ⟨h, -⟩ | ⟨-, h⟩; omega; exact h
  clear hS hor
  obtain ⟨aS, cS, rfl, hcS, rS⟩ := oS.shape
  have jS := sub_few mL pS eS
  rw [eL, eR] at eS
  have kS' := kP'.trans kS
  have BS := (BD.keep kP).keep kS
  have kPS := kP.trans kS
  have i0 := Keep.cell kPS u0
  have i1 := Keep.cell kPS u1
  have i2 := Keep.cell kPS u2
  have i3 := Keep.cell kPS u3
  have i4 := Keep.cell kPS u4
  have i5 := Keep.cell kPS u5
  have rD2 := rD.keep kPS
  have hO := fun neg => rOver_form neg aS aD cS cD lS lD wS hcS hcD (by omega) (by omega) rS rD2 mS mD
  rw [eS, eD] at hO
  go_wp2_with fail
  refine (hO _).mono ?_
  rintro e wC hC
  obtain ⟨an, cn, ln, ad, cm, lm, rfl, hfin, kC⟩ := hC.box kS' hgw BS
  have BC := BS.keep kC
  obtain ⟨z0, z1, z2⟩ := BC.cells
  have f0 := BC.free 0
  have f1 := BC.free 1
  have f2 := BC.free 2
  clear hO hC
  go_wp2_with fail
  refine bodyPost_ret (v := .tuple #[.agg #[.bool _, .slice an ln.length cn, .slice ad lm.length cm], .int .i64 (RE (val lb * val ld))]) (by simp [results, Tryd.results56, go_sem, World.cell?_setCell_other, World.cell?_setCell_same, z0, z1, z2]) rfl (hfin _ _ _)
set_option maxRecDepth 100000 in
set_option maxHeartbeats 1600000 in
theorem rPlus_less (n1 n2 : Bool) (a b c d : Option Addr) (ca cb cc cd : Nat) (la lb lc ld : List Nat) (w : World) (hA : Arg2 w a ca la b cb lb) (hB : Arg2 w c cc lc d cd ld) (h0 : val lb ≠ 0) (h1 : val ld ≠ 0) (hn : n1 ≠ n2) (hle : val la * val ld < val lc * val lb) :
    Calls Tryd.prog 56 #[.agg #[.bool n1, .slice a la.length ca, .slice b lb.length cb], .agg #[.bool n2, .slice c lc.length cc, .slice d ld.length cd]] w fun e w' => RatF w w' e n2 (val lc * val lb - val la * val ld) (val lb * val ld) := by
  obtain ⟨W, hW, B1, B2, B3, kW, hsz⟩ := lay3 w (.bool n1) (.slice a la.length ca) (.slice b lb.length cb) (.bool n2) (.slice c lc.length cc) (.slice d ld.length cd) (.bool false) (.slice none 0 0) (.slice none 0 0)
  have cL0 := fun wx (hk : Keep w wx) => rLen_any b cb lb wx hA.hcb (by have := hA.hlb; omega) (hA.hrb.keep hk) hA.hmb
  have w0 : lenB lb ≠ 0 := fun h => h0 ((lenB_nought hA.hmb).1 h)
  generalize lenB lb = N0 at cL0 w0
  have g0 : ((N0 : Int) == 0) = false := by simp; omega
  have cL1 := fun wx (hk : Keep w wx) => rLen_any d cd ld wx hB.hcb (by have := hB.hlb; omega) (hB.hrb.keep hk) hB.hmb
  have w1 : lenB ld ≠ 0 := fun h => h1 ((lenB_nought hB.hmb).1 h)
  generalize lenB ld = N1 at cL1 w1
  have g1 : ((N1 : Int) == 0) = false := by simp; omega
  have M1 := fun wx (hk : Keep w wx) => rMul_any a d ca cd la ld wx (by have := hA.hla; omega) (by have := hB.hlb; omega) (by have := hA.hla; have := hB.hlb; omega) (hA.hra.keep hk) (hB.hrb.keep hk) hA.hma hB.hmb
  have M2 := fun wx (hk : Keep w wx) => rMul_any c b cc cb lc lb wx (by have := hB.hla; omega) (by have := hA.hlb; omega) (by have := hB.hla; have := hA.hlb; omega) (hB.hra.keep hk) (hA.hrb.keep hk) hB.hma hA.hmb
  have M3 := fun wx (hk : Keep w wx) => rMul_any b d cb cd lb ld wx (by have := hA.hlb; omega) (by have := hB.hlb; omega) (by have := hA.hlb; have := hB.hlb; omega) (hA.hrb.keep hk) (hB.hrb.keep hk) hA.hmb hB.hmb
  have q1 := hA.hla
  have q2 := hA.hlb
  have q3 := hB.hla
  have q4 := hB.hlb
  go_enter Tryd.func56, Tryd.ntmps56
  go_wp2_with fail
  rw [← hW]
  clear hW
  refine (cL0 W kW).mono ?_
  rintro e v0 ⟨rfl, j0⟩
  have B1 := B1.keep j0
  have B2 := B2.keep j0
  have B3 := B3.keep j0
  have kW0 := kW.trans j0
  obtain ⟨x0, x1, x2⟩ := B1.cells
  obtain ⟨x3, x4, x5⟩ := B2.cells
  obtain ⟨z0, z1, z2⟩ := B3.cells
  have f0 := B3.free 0
  have f1 := B3.free 1
  have f2 := B3.free 2
  go_wp2_with fail
  clear x0 x1 x2 x3 x4 x5 z0 z1 z2 f0 f1 f2
  refine (cL1 v0 kW0).mono ?_
  rintro e v1 ⟨rfl, j1⟩
  have B1 := B1.keep j1
  have B2 := B2.keep j1
  have B3 := B3.keep j1
  have kW01 := kW0.trans j1
  obtain ⟨x0, x1, x2⟩ := B1.cells
  obtain ⟨x3, x4, x5⟩ := B2.cells
  obtain ⟨z0, z1, z2⟩ := B3.cells
  have f0 := B3.free 0
  have f1 := B3.free 1
  have f2 := B3.free 2
  go_wp2_with fail
  clear x0 x1 x2 x3 x4 x5 z0 z1 z2 f0 f1 f2
  obtain ⟨x0, x1, x2⟩ := B1.cells
  obtain ⟨x3, x4, x5⟩ := B2.cells
  have Bd : Box v1.drew (w.heap.size + 1 + 1) (.bool false) (.slice none 0 0) (.slice none 0 0) := B3
  have kd : Keep w v1.drew := kW01.drew
  have hgw : w.heap.size ≤ w.heap.size + 1 + 1 := by omega
  obtain ⟨g, hg⟩ : ∃ g, w.heap.size = g := ⟨_, rfl⟩
  rw [hg] at x0 x1 x2 x3 x4 x5 Bd
  rw [show w.heap.size + 1 + 1 = g + 1 + 1 by omega] at hgw
  rw [hg]
  clear hg
  have hn1 : ¬ (g = g + 1 + 1) := by omega
  have hn2 : ¬ (g + 1 + 1 = g) := by omega
  clear cL0 cL1 B1 B2
  go_region_held3 (fun w' => w'.cell? ⟨g, 0, none⟩ = some (Value.bool n1) ∧ w'.cell? ⟨g, 1, none⟩ = some (Value.slice a la.length ca) ∧ w'.cell? ⟨g, 2, none⟩ = some (Value.slice b lb.length cb) ∧ w'.cell? ⟨g + 1, 0, none⟩ = some (Value.bool n2) ∧ w'.cell? ⟨g + 1, 1, none⟩ = some (Value.slice c lc.length cc) ∧ w'.cell? ⟨g + 1, 2, none⟩ = some (Value.slice d ld.length cd)) (go_keep) (first
    | (go_at_call_of 36 (Value.slice a la.length ca); refine (M1 _ ?_).mono ?_; exact kd; rintro e wL ⟨vL, lL, rfl, oL, mL, pL, eL, kL⟩; obtain ⟨aL, cL, rfl, hcL, rL⟩ := oL.shape; have jL := mul_few hA.hma hB.hmb pL eL; have kkL := kd.trans kL; have BL := Bd.keep kL; have s0 := Keep.cell kL x0; have s1 := Keep.cell kL x1; have s2 := Keep.cell kL x2; have s3 := Keep.cell kL x3; have s4 := Keep.cell kL x4; have s5 := Keep.cell kL x5)
    | (go_at_call_of 36 (Value.slice c lc.length cc); refine (M2 _ ?_).mono ?_; exact kkL; rintro e wR ⟨vR, lR, rfl, oR, mR, pR, eR, kR⟩; obtain ⟨aR, cR, rfl, hcR, rR⟩ := oR.shape; have jR := mul_few hB.hma hA.hmb pR eR; have kkR := kkL.trans kR; have BR := BL.keep kR; have rL2 := rL.keep kR; have t0 := Keep.cell kR s0; have t1 := Keep.cell kR s1; have t2 := Keep.cell kR s2; have t3 := Keep.cell kR s3; have t4 := Keep.cell kR s4; have t5 := Keep.cell kR s5)
    | (go_at_call_of 36 (Value.slice b lb.length cb); refine (M3 _ ?_).mono ?_; exact kkR; rintro e wD ⟨vD, lD, rfl, oD, mD, pD, eD, kD⟩; obtain ⟨aD, cD, rfl, hcD, rD⟩ := oD.shape; have jD := mul_few hA.hmb hB.hmb pD eD; have kkD := kkR.trans kD; have BD := BR.keep kD; have rL3 := rL2.keep kD; have rR3 := rR.keep kD; have u0 := Keep.cell kD t0; have u1 := Keep.cell kD t1; have u2 := Keep.cell kD t2; have u3 := Keep.cell kD t3; have u4 := Keep.cell kD t4; have u5 := Keep.cell kD t5))
  have hnn : (n1 == n2) = false := by cases n1 <;> cases n2 <;> simp_all
  have hvge : val lL ≤ val lR := by rw [eL, eR]; omega
  have hcp := rCmp_any aL aR cL cR lL lR wD hcL hcR (by omega) (by omega) rL3 rR3
  rw [cmpL_eq _ _ (Lim_take mL _) (Lim_take mR _) (Nrm_take lL) (Nrm_take lR), val_take_nl, val_take_nl, eL, eR] at hcp
  have hz :  cmpN (val la * val ld) (val lc * val lb) < 0 := by unfold cmpN; rw [if_pos (by omega)]; omega
  generalize cmpN (val la * val ld) (val lc * val lb) = z at hcp hz
  have hgz : decide (0 ≤ z) = false := by simp; omega
  go_simp
  go_wp2_with fail
  refine hcp.mono ?_
  rintro e wP ⟨rfl, kP⟩
  clear hcp
  have kP' := kkD.trans kP
  have hS := rSub_any aR aL cR cL lR lL wP hcR hcL (by omega) (by omega) (rR3.keep kP) (rL3.keep kP) mR mL
  go_wp2_with fail
  refine hS.mono ?_
  rintro e wS ⟨hor, kS⟩
  obtain ⟨vS, lS, rfl, oS, mS, pS, eS⟩ : ∃ v l, e = .returned (.tuple #[v, .int .i64 0]) ∧ Own wP.heap.size wS v l ∧ Lim l ∧ Nrm l ∧ val l = val lR - val lL := by rcases hor with ⟨h, -⟩ | ⟨-, h⟩; omega; exact h
  clear hS hor
  obtain ⟨aS, cS, rfl, hcS, rS⟩ := oS.shape
  have jS := sub_few mR pS eS
  rw [eL, eR] at eS
  have kS' := kP'.trans kS
  have BS := (BD.keep kP).keep kS
  have kPS := kP.trans kS
  have i0 := Keep.cell kPS u0
  have i1 := Keep.cell kPS u1
  have i2 := Keep.cell kPS u2
  have i3 := Keep.cell kPS u3
  have i4 := Keep.cell kPS u4
  have i5 := Keep.cell kPS u5
  have rD2 := rD.keep kPS
  have hO := fun neg => rOver_form neg aS aD cS cD lS lD wS hcS hcD (by omega) (by omega) rS rD2 mS mD
  rw [eS, eD] at hO
  go_wp2_with fail
  refine (hO _).mono ?_
  rintro e wC hC
  obtain ⟨an, cn, ln, ad, cm, lm, rfl, hfin, kC⟩ := hC.box kS' hgw BS
  have BC := BS.keep kC
  obtain ⟨z0, z1, z2⟩ := BC.cells
  have f0 := BC.free 0
  have f1 := BC.free 1
  have f2 := BC.free 2
  clear hO hC
  go_wp2_with fail
  refine bodyPost_ret (v := .tuple #[.agg #[.bool _, .slice an ln.length cn, .slice ad lm.length cm], .int .i64 (RE (val lb * val ld))]) (by simp [results, Tryd.results56, go_sem, World.cell?_setCell_other, World.cell?_setCell_same, z0, z1, z2]) rfl (hfin _ _ _)
theorem rPlus_form (n1 n2 : Bool) (a b c d : Option Addr) (ca cb cc cd : Nat) (la lb lc ld : List Nat) (w : World) (hA : Arg2 w a ca la b cb lb) (hB : Arg2 w c cc lc d cd ld) :
    Calls Tryd.prog 56 #[.agg #[.bool n1, .slice a la.length ca, .slice b lb.length cb], .agg #[.bool n2, .slice c lc.length cc, .slice d ld.length cd]] w fun e w' => RatF w w' e (PG n1 n2 (val la * val ld) (val lc * val lb)) (PN n1 n2 (val la * val ld) (val lc * val lb)) (val lb * val ld) := by
  by_cases h0 : val lb = 0
  · refine (rPlus_none0 n1 n2 a b c d ca cb cc cd la lb lc ld w hA hB h0).mono ?_
    rintro e w' ⟨rfl, k⟩
    exact RatF.none (by rw [h0, Nat.zero_mul]) k
  · by_cases h1 : val ld = 0
    · refine (rPlus_none1 n1 n2 a b c d ca cb cc cd la lb lc ld w hA hB h0 h1).mono ?_
      rintro e w' ⟨rfl, k⟩
      exact RatF.none (by rw [h1, Nat.mul_zero]) k
    · unfold PG PN
      by_cases hn : n1 = n2
      · rw [if_pos hn, if_pos hn]
        exact rPlus_like n1 n2 a b c d ca cb cc cd la lb lc ld w hA hB h0 h1 hn
      · rw [if_neg hn, if_neg hn]
        by_cases hle : val lc * val lb ≤ val la * val ld
        · rw [if_pos hle, if_pos hle]
          exact rPlus_more n1 n2 a b c d ca cb cc cd la lb lc ld w hA hB h0 h1 hn hle
        · rw [if_neg hle, if_neg hle]
          exact rPlus_less n1 n2 a b c d ca cb cc cd la lb lc ld w hA hB h0 h1 hn (by omega)
end Go.Proofs.YtbjidpooociamaaDoor
