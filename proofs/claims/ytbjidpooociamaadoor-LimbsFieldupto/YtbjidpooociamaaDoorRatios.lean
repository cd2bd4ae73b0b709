import Derived.Test.YtbjidpooociamaaDoorK12
import Derived.Test.YtbjidpooociamaaDoorC19
namespace Go.Proofs.YtbjidpooociamaaDoor
open Go.RowKit Lb
theorem Order_form (n1 n2 : Bool) (a b c d : Option Addr) (ca cb cc cd : Nat) (la lb lc ld : List Nat) (w : World) (hA : Arg2 w a ca la b cb lb) (hB : Arg2 w c cc lc d cd ld) :
    Calls Tryd.prog 60 #[.agg #[.bool n1, .slice a la.length ca, .slice b lb.length cb], .agg #[.bool n2, .slice c lc.length cc, .slice d ld.length cd]] w fun e w' => e = .returned (.tuple #[.int .i64 (ordR (val lb * val ld) n1 n2 (val la * val ld) (val lc * val lb)), .int .i64 (RE (val lb * val ld))]) ∧ Keep w w' := by
  by_cases h : val lb = 0 ∨ val ld = 0
  · have hz : val lb * val ld = 0 := by rcases h with h | h <;> simp [h]
    refine (Order_none n1 n2 a b c d ca cb cc cd la lb lc ld w hA hB h).mono ?_
    rintro e w' ⟨rfl, k⟩
    exact ⟨by simp [ordR, RE, hz], k⟩
  · have h0 : val lb ≠ 0 := fun e => h (.inl e)
    have h1 : val ld ≠ 0 := fun e => h (.inr e)
    have hz : val lb * val ld ≠ 0 := Nat.mul_ne_zero h0 h1
    refine (Order_some n1 n2 a b c d ca cb cc cd la lb lc ld w hA hB h0 h1).mono ?_
    rintro e w' ⟨rfl, k⟩
    refine ⟨?_, k⟩
    have hL : decide (val la = 0) = decide (val la * val ld = 0) := by rw [decide_eq_decide, Nat.mul_eq_zero]; simp [h1]
    have hR : decide (val lc = 0) = decide (val lc * val lb = 0) := by rw [decide_eq_decide, Nat.mul_eq_zero]; simp [h0]
    rw [hL, hR, ord_one]
    simp [ordR, RE, hz]
theorem RN_le (N D : Nat) : RN N D ≤ N := by unfold RN; split; omega; exact Nat.div_le_self _ _
theorem RD_le (N D : Nat) : RD N D ≤ D := by unfold RD; split; omega; exact Nat.div_le_self _ _
theorem PN_le (n1 n2 : Bool) (L R : Nat) : PN n1 n2 L R ≤ L + R := by unfold PN; split; omega; split <;> omega
theorem rat_len {l : List Nat} {N M K : Nat} (hn : Nrm l) (he : val l = N) (hN : N ≤ M) (hM : M < 4294967296 ^ K) : l.length ≤ K := len_le_pow hn K (by omega)
theorem prod_lt {la lb : List Nat} (ma : Lim la) (mb : Lim lb) (K : Nat) (h : la.length + lb.length ≤ K) : val la * val lb < 4294967296 ^ K := by
  refine Nat.lt_of_lt_of_le ?_ (Nat.pow_le_pow_right (by omega) h)
  rw [Nat.pow_add]
  exact Nat.mul_lt_mul_of_lt_of_le (val_lt ma) (Nat.le_of_lt (val_lt mb)) (Nat.pos_of_ne_zero (by simp))
theorem two_lt {x y K : Nat} (hx : x < 4294967296 ^ K) (hy : y < 4294967296 ^ K) : x + y < 4294967296 ^ (K + 1) := by rw [Nat.pow_succ]; omega
set_option maxRecDepth 100000 in
set_option maxHeartbeats 6400000 in
theorem law_ratios (n1 n2 : Bool) (a b c d : Option Addr) (ca cb cc cd : Nat) (la lb lc ld : List Nat) (n : Int) (w : World) (hA : Arg2 w a ca la b cb lb) (hB : Arg2 w c cc lc d cd ld) (hn1 : -9223372036854775808 ≤ n) (hn2 : n ≤ 9223372036854775807) :
    Calls Tryd.prog 8 #[.agg #[.bool n1, .slice a la.length ca, .slice b lb.length cb], .agg #[.bool n2, .slice c lc.length cc, .slice d ld.length cd], .int .i64 n] w fun e w' => e = .returned (.bool true) ∧ Keep w w' := by
  obtain ⟨W, hW, B1, B2, kW⟩ := lay2 w (.bool n1) (.slice a la.length ca) (.slice b lb.length cb) (.bool n2) (.slice c lc.length cc) (.slice d ld.length cd)
  obtain ⟨K, hK, hK2⟩ : ∃ K, 33554432 ≤ K ∧ K ≤ 67108864 := ⟨33554432, by omega, by omega⟩
  have q1 := hA.hla
  have q2 := hA.hlb
  have q3 := hB.hla
  have q4 := hB.hlb
  have g1 := prod_lt hA.hma hB.hmb K (by omega)
  have g2 := prod_lt hB.hma hA.hmb K (by omega)
  have g3 := prod_lt hA.hmb hB.hmb K (by omega)
  have g4 := prod_lt hA.hma hB.hma K (by omega)
  have g5 := prod_lt hA.hmb hB.hma K (by omega)
  have g6 := two_lt g1 g2
  have gm : 4294967296 ^ K ≤ 4294967296 ^ (K + 1) := Nat.pow_le_pow_right (by omega) (by omega)
  have ga : val la < 4294967296 ^ (K + 1) := Nat.lt_of_lt_of_le (val_lt hA.hma) (Nat.pow_le_pow_right (by omega) (by omega))
  have gb : val lb < 4294967296 ^ (K + 1) := Nat.lt_of_lt_of_le (val_lt hA.hmb) (Nat.pow_le_pow_right (by omega) (by omega))
  have gD : (if val ld = 0 then 0 else val lb * val lc) < 4294967296 ^ (K + 1) := by split; exact Nat.pos_of_ne_zero (by simp); omega
  have cO := fun wx (hk : Keep w wx) => Over_form n1 a b ca cb la lb wx hA.hca hA.hcb (by omega) (by omega) (hA.hra.keep hk) (hA.hrb.keep hk) hA.hma hA.hmb
  have cR := fun wx (hk : Keep w wx) => rOver_form n1 a b ca cb la lb wx hA.hca hA.hcb (by omega) (by omega) (hA.hra.keep hk) (hA.hrb.keep hk) hA.hma hA.hmb
  have cP1 := fun wx (hk : Keep w wx) => Plus_form n1 n2 a b c d ca cb cc cd la lb lc ld wx (hA.keep hk) (hB.keep hk)
  have cP2 := fun wx (hk : Keep w wx) => Minus_form n1 n2 a b c d ca cb cc cd la lb lc ld wx (hA.keep hk) (hB.keep hk)
  have cP3 := fun wx (hk : Keep w wx) => Times_form n1 n2 a b c d ca cb cc cd la lb lc ld wx (hA.keep hk) (hB.keep hk)
  have cP4 := fun wx (hk : Keep w wx) => By_form n1 n2 a b c d ca cb cc cd la lb lc ld wx (hA.keep hk) (hB.keep hk)
  have cQ1 := fun wx (hk : Keep w wx) => rPlus_form n1 n2 a b c d ca cb cc cd la lb lc ld wx (hA.keep hk) (hB.keep hk)
  have cQ2 := fun wx (hk : Keep w wx) => rMinus_form n1 n2 a b c d ca cb cc cd la lb lc ld wx (hA.keep hk) (hB.keep hk)
  have cQ3 := fun wx (hk : Keep w wx) => rTimes_form n1 n2 a b c d ca cb cc cd la lb lc ld wx (hA.keep hk) (hB.keep hk)
  have cQ4 := fun wx (hk : Keep w wx) => rBy_form n1 n2 a b c d ca cb cc cd la lb lc ld wx (hA.keep hk) (hB.keep hk)
  have cC := fun wx (hk : Keep w wx) => Order_form n1 n2 a b c d ca cb cc cd la lb lc ld wx (hA.keep hk) (hB.keep hk)
  have cE := fun wx (hk : Keep w wx) => rOrder_form n1 n2 a b c d ca cb cc cd la lb lc ld wx (hA.keep hk) (hB.keep hk)
  clear hA hB
  have y1 : PN n1 n2 (val la * val ld) (val lc * val lb) < 4294967296 ^ (K + 1) := Nat.lt_of_le_of_lt (PN_le _ _ _ _) g6
  have y2 : PN n1 (!n2) (val la * val ld) (val lc * val lb) < 4294967296 ^ (K + 1) := Nat.lt_of_le_of_lt (PN_le _ _ _ _) g6
  have y3 : val la * val lc < 4294967296 ^ (K + 1) := by omega
  have y4 : val la * val ld < 4294967296 ^ (K + 1) := by omega
  have y5 : val lb * val ld < 4294967296 ^ (K + 1) := by omega
  clear g1 g2 g3 g4 g5 g6 gm
  generalize ordR (val lb * val ld) n1 n2 (val la * val ld) (val lc * val lb) = ov at cC cE
  generalize PG n1 n2 (val la * val ld) (val lc * val lb) = G1 at cP1 cQ1
  generalize PG n1 (!n2) (val la * val ld) (val lc * val lb) = G2 at cP2 cQ2
  generalize (n1 != n2) = G3 at cP3 cQ3 cP4 cQ4
  generalize PN n1 n2 (val la * val ld) (val lc * val lb) = N1 at cP1 cQ1 y1
  generalize PN n1 (!n2) (val la * val ld) (val lc * val lb) = N2 at cP2 cQ2 y2
  generalize (if val ld = 0 then 0 else val lb * val lc) = D4 at cP4 cQ4 gD
  generalize val la * val lc = N3 at cP3 cQ3 y3
  generalize val la * val ld = N4 at cP4 cQ4 y4
  generalize val lb * val ld = D1 at cP1 cQ1 cP2 cQ2 cP3 cQ3 cC cE y5
  generalize val la = N0 at cO cR ga
  generalize val lb = D0 at cO cR gb
  obtain ⟨s0, hs0⟩ : ∃ s, RS n1 N0 D0 = s := ⟨_, rfl⟩
  have HS0 : Hid (RS n1 N0 D0 = s0) := hs0
  clear hs0
  obtain ⟨r0, hr0⟩ : ∃ s, RE D0 = s := ⟨_, rfl⟩
  have HR0 : Hid (RE D0 = r0) := hr0
  clear hr0
  obtain ⟨s1, hs1⟩ : ∃ s, RS G1 N1 D1 = s := ⟨_, rfl⟩
  have HS1 : Hid (RS G1 N1 D1 = s1) := hs1
  clear hs1
  obtain ⟨r1, hr1⟩ : ∃ s, RE D1 = s := ⟨_, rfl⟩
  have HR1 : Hid (RE D1 = r1) := hr1
  clear hr1
  obtain ⟨s2, hs2⟩ : ∃ s, RS G2 N2 D1 = s := ⟨_, rfl⟩
  have HS2 : Hid (RS G2 N2 D1 = s2) := hs2
  clear hs2
  obtain ⟨r2, hr2⟩ : ∃ s, RE D1 = s := ⟨_, rfl⟩
  have HR2 : Hid (RE D1 = r2) := hr2
  clear hr2
  obtain ⟨s3, hs3⟩ : ∃ s, RS G3 N3 D1 = s := ⟨_, rfl⟩
  have HS3 : Hid (RS G3 N3 D1 = s3) := hs3
  clear hs3
  obtain ⟨r3, hr3⟩ : ∃ s, RE D1 = s := ⟨_, rfl⟩
  have HR3 : Hid (RE D1 = r3) := hr3
  clear hr3
  obtain ⟨s4, hs4⟩ : ∃ s, RS G3 N4 D4 = s := ⟨_, rfl⟩
  have HS4 : Hid (RS G3 N4 D4 = s4) := hs4
  clear hs4
  obtain ⟨r4, hr4⟩ : ∃ s, RE D4 = s := ⟨_, rfl⟩
  have HR4 : Hid (RE D4 = r4) := hr4
  clear hr4
  go_enter Tryd.func8, Tryd.ntmps8
  go_wp2_with fail
  rw [← hW]
  clear hW
  refine (lives_any W).mono ?_
  rintro e v0 ⟨rfl, j0⟩
  have kv0 := kW.trans j0
  have B1 := B1.keep j0
  have B2 := B2.keep j0
  go_wp2_with fail
  refine (Whole_form n v0 hn1 hn2).mono ?_
  rintro e v1 ⟨an, cn, ln, ad, cm, lm, rfl, -, -, rn, rd, mn, md, pn, pd, en, ed, j1⟩
  go_wp2_with fail
  refine (rWhole_form n v1 hn1 hn2).mono ?_
  rintro e v2 ⟨an', cn', ln', ad', cm', lm', rfl, -, -, rn', rd', mn', md', pn', pd', en', ed', j2⟩
  obtain rfl : ln' = ln := val_inj mn' mn pn' pn (by omega)
  obtain rfl : lm' = lm := val_inj md' md pd' pd (by omega)
  have i1 := len_two pn (by omega)
  have i2 := len_two pd (by omega)
  have hAl := Alike_same (decide (n < 0)) an ad an' ad' cn cm cn' cm' ln' lm' v2 (by omega) (by omega) (rn.keep j2) (rd.keep j2) rn' rd'
  generalize decide (n < 0) = dn at hAl ⊢
  go_wp2_with fail
  refine hAl.mono ?_
  rintro e v3 ⟨rfl, j3⟩
  clear hAl en en' ed ed'
  have j03 := (j1.trans j2).trans j3
  have kv3 := kv0.trans j03
  have B1 := B1.keep j03
  have B2 := B2.keep j03
  obtain ⟨x0, x1, x2⟩ := B1.cells
  obtain ⟨x3, x4, x5⟩ := B2.cells
  go_wp2_with fail
  refine (cO v3 kv3).mono ?_
  rintro e u1 ⟨anO, cnO, lnO, adO, cdO, ldO, rfl, -, -, rnO, rdO, mnO, mdO, pnO, pdO, enO, edO, l1⟩
  rw [HS0.out, HR0.out]
  have lx1 : Keep u1 (u1.alloc (Obj.cells #[Value.bool s0, Value.slice anO lnO.length cnO, Value.slice adO ldO.length cdO] 47)) := (Keep.refl u1).alloc _
  have AO := Box.new u1 (.bool s0) (.slice anO lnO.length cnO) (.slice adO ldO.length cdO)
  have ll1 := l1.trans lx1
  have enO : Hid (val lnO = RN N0 D0) := enO
  have edO : Hid (val ldO = RD N0 D0) := edO
  clear x0 x1 x2 x3 x4 x5
  have B1 := B1.keep ll1
  have B2 := B2.keep ll1
  have rnO := rnO.keep lx1
  have rdO := rdO.keep lx1
  have kk1 := kv3.trans ll1
  obtain ⟨x0, x1, x2⟩ := B1.cells
  obtain ⟨x3, x4, x5⟩ := B2.cells
  obtain ⟨zO0, zO1, zO2⟩ := AO.cells
  go_wp2_with fail
  generalize u1.alloc _ = U1 at lx1 ll1 kk1 x0 x1 x2 x3 x4 x5 zO0 zO1 zO2 B1 B2 AO rnO rdO ⊢
  refine (cR U1 kk1).mono ?_
  rintro e u2 ⟨anR, cnR, lnR, adR, cdR, ldR, rfl, -, -, rnR, rdR, mnR, mdR, pnR, pdR, enR, edR, l2⟩
  rw [HS0.out, HR0.out]
  have lx2 : Keep u2 (u2.alloc (Obj.cells #[Value.bool s0, Value.slice anR lnR.length cnR, Value.slice adR ldR.length cdR] 47)) := (Keep.refl u2).alloc _
  have AR := Box.new u2 (.bool s0) (.slice anR lnR.length cnR) (.slice adR ldR.length cdR)
  have ll2 := l2.trans lx2
  have enR : Hid (val lnR = RN N0 D0) := enR
  have edR : Hid (val ldR = RD N0 D0) := edR
  clear x0 x1 x2 x3 x4 x5 zO0 zO1 zO2
  have B1 := B1.keep ll2
  have B2 := B2.keep ll2
  have AO := AO.keep ll2
  have rnO := rnO.keep ll2
  have rdO := rdO.keep ll2
  have rnR := rnR.keep lx2
  have rdR := rdR.keep lx2
  have kk2 := kk1.trans ll2
  obtain ⟨x0, x1, x2⟩ := B1.cells
  obtain ⟨x3, x4, x5⟩ := B2.cells
  obtain ⟨zO0, zO1, zO2⟩ := AO.cells
  obtain ⟨zR0, zR1, zR2⟩ := AR.cells
  go_wp2_with fail
  generalize u2.alloc _ = U2 at lx2 ll2 kk2 x0 x1 x2 x3 x4 x5 zO0 zO1 zO2 zR0 zR1 zR2 B1 B2 AO AR rnO rdO rnR rdR ⊢
  obtain rfl : lnR = lnO := val_inj mnR mnO pnR pnO (by rw [enR.out, enO.out])
  obtain rfl : ldR = ldO := val_inj mdR mdO pdR pdO (by rw [edR.out, edO.out])
  have hn3 := rat_len pnR enR.out (RN_le _ _) ga
  have hd3 := rat_len pdR edR.out (RD_le _ _) gb
  have hAl := Alike_same s0 anO adO anR adR cnO cdO cnR cdR lnR ldR U2 (by omega) (by omega) rnO rdO rnR rdR
  refine hAl.mono ?_
  rintro e u3 ⟨rfl, l3⟩
  clear hAl
  clear x0 x1 x2 x3 x4 x5 zO0 zO1 zO2 zR0 zR1 zR2
  have B1 := B1.keep l3
  have B2 := B2.keep l3
  have AO := AO.keep l3
  have AR := AR.keep l3
  have rnO := rnO.keep l3
  have rdO := rdO.keep l3
  have rnR := rnR.keep l3
  have rdR := rdR.keep l3
  have kk3 := kk2.trans l3
  obtain ⟨x0, x1, x2⟩ := B1.cells
  obtain ⟨x3, x4, x5⟩ := B2.cells
  obtain ⟨zO0, zO1, zO2⟩ := AO.cells
  obtain ⟨zR0, zR1, zR2⟩ := AR.cells
  go_wp2_with fail
  clear AO zO0 zO1 zO2 AR zR0 zR1 zR2
  refine (cP1 u3 kk3).mono ?_
  rintro e u4 ⟨anP1, cnP1, lnP1, adP1, cdP1, ldP1, rfl, -, -, rnP1, rdP1, mnP1, mdP1, pnP1, pdP1, enP1, edP1, l4⟩
  rw [HS1.out, HR1.out]
  have lx4 : Keep u4 (u4.alloc (Obj.cells #[Value.bool s1, Value.slice anP1 lnP1.length cnP1, Value.slice adP1 ldP1.length cdP1] 47)) := (Keep.refl u4).alloc _
  have AP1 := Box.new u4 (.bool s1) (.slice anP1 lnP1.length cnP1) (.slice adP1 ldP1.length cdP1)
  have ll4 := l4.trans lx4
  have enP1 : Hid (val lnP1 = RN N1 D1) := enP1
  have edP1 : Hid (val ldP1 = RD N1 D1) := edP1
  clear x0 x1 x2 x3 x4 x5
  have B1 := B1.keep ll4
  have B2 := B2.keep ll4
  have rnP1 := rnP1.keep lx4
  have rdP1 := rdP1.keep lx4
  have kk4 := kk3.trans ll4
  obtain ⟨x0, x1, x2⟩ := B1.cells
  obtain ⟨x3, x4, x5⟩ := B2.cells
  obtain ⟨zP10, zP11, zP12⟩ := AP1.cells
  go_wp2_with fail
  generalize u4.alloc _ = U4 at lx4 ll4 kk4 x0 x1 x2 x3 x4 x5 zP10 zP11 zP12 B1 B2 AP1 rnP1 rdP1 ⊢
  refine (cP2 U4 kk4).mono ?_
  rintro e u5 ⟨anP2, cnP2, lnP2, adP2, cdP2, ldP2, rfl, -, -, rnP2, rdP2, mnP2, mdP2, pnP2, pdP2, enP2, edP2, l5⟩
  rw [HS2.out, HR2.out]
  have lx5 : Keep u5 (u5.alloc (Obj.cells #[Value.bool s2, Value.slice anP2 lnP2.length cnP2, Value.slice adP2 ldP2.length cdP2] 47)) := (Keep.refl u5).alloc _
  have AP2 := Box.new u5 (.bool s2) (.slice anP2 lnP2.length cnP2) (.slice adP2 ldP2.length cdP2)
  have ll5 := l5.trans lx5
  have enP2 : Hid (val lnP2 = RN N2 D1) := enP2
  have edP2 : Hid (val ldP2 = RD N2 D1) := edP2
  clear x0 x1 x2 x3 x4 x5 zP10 zP11 zP12
  have B1 := B1.keep ll5
  have B2 := B2.keep ll5
  have AP1 := AP1.keep ll5
  have rnP1 := rnP1.keep ll5
  have rdP1 := rdP1.keep ll5
  have rnP2 := rnP2.keep lx5
  have rdP2 := rdP2.keep lx5
  have kk5 := kk4.trans ll5
  obtain ⟨x0, x1, x2⟩ := B1.cells
  obtain ⟨x3, x4, x5⟩ := B2.cells
  obtain ⟨zP10, zP11, zP12⟩ := AP1.cells
  obtain ⟨zP20, zP21, zP22⟩ := AP2.cells
  go_wp2_with fail
  generalize u5.alloc _ = U5 at lx5 ll5 kk5 x0 x1 x2 x3 x4 x5 zP10 zP11 zP12 zP20 zP21 zP22 B1 B2 AP1 AP2 rnP1 rdP1 rnP2 rdP2 ⊢
  refine (cP3 U5 kk5).mono ?_
  rintro e u6 ⟨anP3, cnP3, lnP3, adP3, cdP3, ldP3, rfl, -, -, rnP3, rdP3, mnP3, mdP3, pnP3, pdP3, enP3, edP3, l6⟩
  rw [HS3.out, HR3.out]
  have lx6 : Keep u6 (u6.alloc (Obj.cells #[Value.bool s3, Value.slice anP3 lnP3.length cnP3, Value.slice adP3 ldP3.length cdP3] 47)) := (Keep.refl u6).alloc _
  have AP3 := Box.new u6 (.bool s3) (.slice anP3 lnP3.length cnP3) (.slice adP3 ldP3.length cdP3)
  have ll6 := l6.trans lx6
  have enP3 : Hid (val lnP3 = RN N3 D1) := enP3
  have edP3 : Hid (val ldP3 = RD N3 D1) := edP3
  clear x0 x1 x2 x3 x4 x5 zP10 zP11 zP12 zP20 zP21 zP22
  have B1 := B1.keep ll6
  have B2 := B2.keep ll6
  have AP1 := AP1.keep ll6
  have AP2 := AP2.keep ll6
  have rnP1 := rnP1.keep ll6
  have rdP1 := rdP1.keep ll6
  have rnP2 := rnP2.keep ll6
  have rdP2 := rdP2.keep ll6
  have rnP3 := rnP3.keep lx6
  have rdP3 := rdP3.keep lx6
  have kk6 := kk5.trans ll6
  obtain ⟨x0, x1, x2⟩ := B1.cells
  obtain ⟨x3, x4, x5⟩ := B2.cells
  obtain ⟨zP10, zP11, zP12⟩ := AP1.cells
  obtain ⟨zP20, zP21, zP22⟩ := AP2.cells
  obtain ⟨zP30, zP31, zP32⟩ := AP3.cells
  go_wp2_with fail
  generalize u6.alloc _ = U6 at lx6 ll6 kk6 x0 x1 x2 x3 x4 x5 zP10 zP11 zP12 zP20 zP21 zP22 zP30 zP31 zP32 B1 B2 AP1 AP2 AP3 rnP1 rdP1 rnP2 rdP2 rnP3 rdP3 ⊢
  refine (cP4 U6 kk6).mono ?_
  rintro e u7 ⟨anP4, cnP4, lnP4, adP4, cdP4, ldP4, rfl, -, -, rnP4, rdP4, mnP4, mdP4, pnP4, pdP4, enP4, edP4, l7⟩
  rw [HS4.out, HR4.out]
  have lx7 : Keep u7 (u7.alloc (Obj.cells #[Value.bool s4, Value.slice anP4 lnP4.length cnP4, Value.slice adP4 ldP4.length cdP4] 47)) := (Keep.refl u7).alloc _
  have AP4 := Box.new u7 (.bool s4) (.slice anP4 lnP4.length cnP4) (.slice adP4 ldP4.length cdP4)
  have ll7 := l7.trans lx7
  have enP4 : Hid (val lnP4 = RN N4 D4) := enP4
  have edP4 : Hid (val ldP4 = RD N4 D4) := edP4
  clear x0 x1 x2 x3 x4 x5 zP10 zP11 zP12 zP20 zP21 zP22 zP30 zP31 zP32
  have B1 := B1.keep ll7
  have B2 := B2.keep ll7
  have AP1 := AP1.keep ll7
  have AP2 := AP2.keep ll7
  have AP3 := AP3.keep ll7
  have rnP1 := rnP1.keep ll7
  have rdP1 := rdP1.keep ll7
  have rnP2 := rnP2.keep ll7
  have rdP2 := rdP2.keep ll7
  have rnP3 := rnP3.keep ll7
  have rdP3 := rdP3.keep ll7
  have rnP4 := rnP4.keep lx7
  have rdP4 := rdP4.keep lx7
  have kk7 := kk6.trans ll7
  obtain ⟨x0, x1, x2⟩ := B1.cells
  obtain ⟨x3, x4, x5⟩ := B2.cells
  obtain ⟨zP10, zP11, zP12⟩ := AP1.cells
  obtain ⟨zP20, zP21, zP22⟩ := AP2.cells
  obtain ⟨zP30, zP31, zP32⟩ := AP3.cells
  obtain ⟨zP40, zP41, zP42⟩ := AP4.cells
  go_wp2_with fail
  generalize u7.alloc _ = U7 at lx7 ll7 kk7 x0 x1 x2 x3 x4 x5 zP10 zP11 zP12 zP20 zP21 zP22 zP30 zP31 zP32 zP40 zP41 zP42 B1 B2 AP1 AP2 AP3 AP4 rnP1 rdP1 rnP2 rdP2 rnP3 rdP3 rnP4 rdP4 ⊢
  refine (cQ1 U7 kk7).mono ?_
  rintro e u8 ⟨anQ1, cnQ1, lnQ1, adQ1, cdQ1, ldQ1, rfl, -, -, rnQ1, rdQ1, mnQ1, mdQ1, pnQ1, pdQ1, enQ1, edQ1, l8⟩
  rw [HS1.out, HR1.out]
  have lx8 : Keep u8 (u8.alloc (Obj.cells #[Value.bool s1, Value.slice anQ1 lnQ1.length cnQ1, Value.slice adQ1 ldQ1.length cdQ1] 47)) := (Keep.refl u8).alloc _
  have AQ1 := Box.new u8 (.bool s1) (.slice anQ1 lnQ1.length cnQ1) (.slice adQ1 ldQ1.length cdQ1)
  have ll8 := l8.trans lx8
  have enQ1 : Hid (val lnQ1 = RN N1 D1) := enQ1
  have edQ1 : Hid (val ldQ1 = RD N1 D1) := edQ1
  clear x0 x1 x2 x3 x4 x5 zP10 zP11 zP12 zP20 zP21 zP22 zP30 zP31 zP32 zP40 zP41 zP42
  have B1 := B1.keep ll8
  have B2 := B2.keep ll8
  have AP1 := AP1.keep ll8
  have AP2 := AP2.keep ll8
  have AP3 := AP3.keep ll8
  have AP4 := AP4.keep ll8
  have rnP1 := rnP1.keep ll8
  have rdP1 := rdP1.keep ll8
  have rnP2 := rnP2.keep ll8
  have rdP2 := rdP2.keep ll8
  have rnP3 := rnP3.keep ll8
  have rdP3 := rdP3.keep ll8
  have rnP4 := rnP4.keep ll8
  have rdP4 := rdP4.keep ll8
  have rnQ1 := rnQ1.keep lx8
  have rdQ1 := rdQ1.keep lx8
  have kk8 := kk7.trans ll8
  obtain ⟨x0, x1, x2⟩ := B1.cells
  obtain ⟨x3, x4, x5⟩ := B2.cells
  obtain ⟨zP10, zP11, zP12⟩ := AP1.cells
  obtain ⟨zP20, zP21, zP22⟩ := AP2.cells
  obtain ⟨zP30, zP31, zP32⟩ := AP3.cells
  obtain ⟨zP40, zP41, zP42⟩ := AP4.cells
  obtain ⟨zQ10, zQ11, zQ12⟩ := AQ1.cells
  go_wp2_with fail
  generalize u8.alloc _ = U8 at lx8 ll8 kk8 x0 x1 x2 x3 x4 x5 zP10 zP11 zP12 zP20 zP21 zP22 zP30 zP31 zP32 zP40 zP41 zP42 zQ10 zQ11 zQ12 B1 B2 AP1 AP2 AP3 AP4 AQ1 rnP1 rdP1 rnP2 rdP2 rnP3 rdP3 rnP4 rdP4 rnQ1 rdQ1 ⊢
  refine (cQ2 U8 kk8).mono ?_
  rintro e u9 ⟨anQ2, cnQ2, lnQ2, adQ2, cdQ2, ldQ2, rfl, -, -, rnQ2, rdQ2, mnQ2, mdQ2, pnQ2, pdQ2, enQ2, edQ2, l9⟩
  rw [HS2.out, HR2.out]
  have lx9 : Keep u9 (u9.alloc (Obj.cells #[Value.bool s2, Value.slice anQ2 lnQ2.length cnQ2, Value.slice adQ2 ldQ2.length cdQ2] 47)) := (Keep.refl u9).alloc _
  have AQ2 := Box.new u9 (.bool s2) (.slice anQ2 lnQ2.length cnQ2) (.slice adQ2 ldQ2.length cdQ2)
  have ll9 := l9.trans lx9
  have enQ2 : Hid (val lnQ2 = RN N2 D1) := enQ2
  have edQ2 : Hid (val ldQ2 = RD N2 D1) := edQ2
  clear x0 x1 x2 x3 x4 x5 zP10 zP11 zP12 zP20 zP21 zP22 zP30 zP31 zP32 zP40 zP41 zP42 zQ10 zQ11 zQ12
  have B1 := B1.keep ll9
  have B2 := B2.keep ll9
  have AP1 := AP1.keep ll9
  have AP2 := AP2.keep ll9
  have AP3 := AP3.keep ll9
  have AP4 := AP4.keep ll9
  have AQ1 := AQ1.keep ll9
  have rnP1 := rnP1.keep ll9
  have rdP1 := rdP1.keep ll9
  have rnP2 := rnP2.keep ll9
  have rdP2 := rdP2.keep ll9
  have rnP3 := rnP3.keep ll9
  have rdP3 := rdP3.keep ll9
  have rnP4 := rnP4.keep ll9
  have rdP4 := rdP4.keep ll9
  have rnQ1 := rnQ1.keep ll9
  have rdQ1 := rdQ1.keep ll9
  have rnQ2 := rnQ2.keep lx9
  have rdQ2 := rdQ2.keep lx9
  have kk9 := kk8.trans ll9
  obtain ⟨x0, x1, x2⟩ := B1.cells
  obtain ⟨x3, x4, x5⟩ := B2.cells
  obtain ⟨zP10, zP11, zP12⟩ := AP1.cells
  obtain ⟨zP20, zP21, zP22⟩ := AP2.cells
  obtain ⟨zP30, zP31, zP32⟩ := AP3.cells
  obtain ⟨zP40, zP41, zP42⟩ := AP4.cells
  obtain ⟨zQ10, zQ11, zQ12⟩ := AQ1.cells
  obtain ⟨zQ20, zQ21, zQ22⟩ := AQ2.cells
  go_wp2_with fail
  generalize u9.alloc _ = U9 at lx9 ll9 kk9 x0 x1 x2 x3 x4 x5 zP10 zP11 zP12 zP20 zP21 zP22 zP30 zP31 zP32 zP40 zP41 zP42 zQ10 zQ11 zQ12 zQ20 zQ21 zQ22 B1 B2 AP1 AP2 AP3 AP4 AQ1 AQ2 rnP1 rdP1 rnP2 rdP2 rnP3 rdP3 rnP4 rdP4 rnQ1 rdQ1 rnQ2 rdQ2 ⊢
  refine (cQ3 U9 kk9).mono ?_
  rintro e u10 ⟨anQ3, cnQ3, lnQ3, adQ3, cdQ3, ldQ3, rfl, -, -, rnQ3, rdQ3, mnQ3, mdQ3, pnQ3, pdQ3, enQ3, edQ3, l10⟩
  rw [HS3.out, HR3.out]
  have lx10 : Keep u10 (u10.alloc (Obj.cells #[Value.bool s3, Value.slice anQ3 lnQ3.length cnQ3, Value.slice adQ3 ldQ3.length cdQ3] 47)) := (Keep.refl u10).alloc _
  have AQ3 := Box.new u10 (.bool s3) (.slice anQ3 lnQ3.length cnQ3) (.slice adQ3 ldQ3.length cdQ3)
  have ll10 := l10.trans lx10
  have enQ3 : Hid (val lnQ3 = RN N3 D1) := enQ3
  have edQ3 : Hid (val ldQ3 = RD N3 D1) := edQ3
  clear x0 x1 x2 x3 x4 x5 zP10 zP11 zP12 zP20 zP21 zP22 zP30 zP31 zP32 zP40 zP41 zP42 zQ10 zQ11 zQ12 zQ20 zQ21 zQ22
  have B1 := B1.keep ll10
  have B2 := B2.keep ll10
  have AP1 := AP1.keep ll10
  have AP2 := AP2.keep ll10
  have AP3 := AP3.keep ll10
  have AP4 := AP4.keep ll10
  have AQ1 := AQ1.keep ll10
  have AQ2 := AQ2.keep ll10
  have rnP1 := rnP1.keep ll10
  have rdP1 := rdP1.keep ll10
  have rnP2 := rnP2.keep ll10
  have rdP2 := rdP2.keep ll10
  have rnP3 := rnP3.keep ll10
  have rdP3 := rdP3.keep ll10
  have rnP4 := rnP4.keep ll10
  have rdP4 := rdP4.keep ll10
  have rnQ1 := rnQ1.keep ll10
  have rdQ1 := rdQ1.keep ll10
  have rnQ2 := rnQ2.keep ll10
  have rdQ2 := rdQ2.keep ll10
  have rnQ3 := rnQ3.keep lx10
  have rdQ3 := rdQ3.keep lx10
  have kk10 := kk9.trans ll10
  obtain ⟨x0, x1, x2⟩ := B1.cells
  obtain ⟨x3, x4, x5⟩ := B2.cells
  obtain ⟨zP10, zP11, zP12⟩ := AP1.cells
  obtain ⟨zP20, zP21, zP22⟩ := AP2.cells
  obtain ⟨zP30, zP31, zP32⟩ := AP3.cells
  obtain ⟨zP40, zP41, zP42⟩ := AP4.cells
  obtain ⟨zQ10, zQ11, zQ12⟩ := AQ1.cells
  obtain ⟨zQ20, zQ21, zQ22⟩ := AQ2.cells
  obtain ⟨zQ30, zQ31, zQ32⟩ := AQ3.cells
  go_wp2_with fail
  generalize u10.alloc _ = U10 at lx10 ll10 kk10 x0 x1 x2 x3 x4 x5 zP10 zP11 zP12 zP20 zP21 zP22 zP30 zP31 zP32 zP40 zP41 zP42 zQ10 zQ11 zQ12 zQ20 zQ21 zQ22 zQ30 zQ31 zQ32 B1 B2 AP1 AP2 AP3 AP4 AQ1 AQ2 AQ3 rnP1 rdP1 rnP2 rdP2 rnP3 rdP3 rnP4 rdP4 rnQ1 rdQ1 rnQ2 rdQ2 rnQ3 rdQ3 ⊢
  refine (cQ4 U10 kk10).mono ?_
  rintro e u11 ⟨anQ4, cnQ4, lnQ4, adQ4, cdQ4, ldQ4, rfl, -, -, rnQ4, rdQ4, mnQ4, mdQ4, pnQ4, pdQ4, enQ4, edQ4, l11⟩
  rw [HS4.out, HR4.out]
  have lx11 : Keep u11 (u11.alloc (Obj.cells #[Value.bool s4, Value.slice anQ4 lnQ4.length cnQ4, Value.slice adQ4 ldQ4.length cdQ4] 47)) := (Keep.refl u11).alloc _
  have AQ4 := Box.new u11 (.bool s4) (.slice anQ4 lnQ4.length cnQ4) (.slice adQ4 ldQ4.length cdQ4)
  have ll11 := l11.trans lx11
  have enQ4 : Hid (val lnQ4 = RN N4 D4) := enQ4
  have edQ4 : Hid (val ldQ4 = RD N4 D4) := edQ4
  clear x0 x1 x2 x3 x4 x5 zP10 zP11 zP12 zP20 zP21 zP22 zP30 zP31 zP32 zP40 zP41 zP42 zQ10 zQ11 zQ12 zQ20 zQ21 zQ22 zQ30 zQ31 zQ32
  have B1 := B1.keep ll11
  have B2 := B2.keep ll11
  have AP1 := AP1.keep ll11
  have AP2 := AP2.keep ll11
  have AP3 := AP3.keep ll11
  have AP4 := AP4.keep ll11
  have AQ1 := AQ1.keep ll11
  have AQ2 := AQ2.keep ll11
  have AQ3 := AQ3.keep ll11
  have rnP1 := rnP1.keep ll11
  have rdP1 := rdP1.keep ll11
  have rnP2 := rnP2.keep ll11
  have rdP2 := rdP2.keep ll11
  have rnP3 := rnP3.keep ll11
  have rdP3 := rdP3.keep ll11
  have rnP4 := rnP4.keep ll11
  have rdP4 := rdP4.keep ll11
  have rnQ1 := rnQ1.keep ll11
  have rdQ1 := rdQ1.keep ll11
  have rnQ2 := rnQ2.keep ll11
  have rdQ2 := rdQ2.keep ll11
  have rnQ3 := rnQ3.keep ll11
  have rdQ3 := rdQ3.keep ll11
  have rnQ4 := rnQ4.keep lx11
  have rdQ4 := rdQ4.keep lx11
  have kk11 := kk10.trans ll11
  obtain ⟨x0, x1, x2⟩ := B1.cells
  obtain ⟨x3, x4, x5⟩ := B2.cells
  obtain ⟨zP10, zP11, zP12⟩ := AP1.cells
  obtain ⟨zP20, zP21, zP22⟩ := AP2.cells
  obtain ⟨zP30, zP31, zP32⟩ := AP3.cells
  obtain ⟨zP40, zP41, zP42⟩ := AP4.cells
  obtain ⟨zQ10, zQ11, zQ12⟩ := AQ1.cells
  obtain ⟨zQ20, zQ21, zQ22⟩ := AQ2.cells
  obtain ⟨zQ30, zQ31, zQ32⟩ := AQ3.cells
  obtain ⟨zQ40, zQ41, zQ42⟩ := AQ4.cells
  go_wp2_with fail
  generalize u11.alloc _ = U11 at lx11 ll11 kk11 x0 x1 x2 x3 x4 x5 zP10 zP11 zP12 zP20 zP21 zP22 zP30 zP31 zP32 zP40 zP41 zP42 zQ10 zQ11 zQ12 zQ20 zQ21 zQ22 zQ30 zQ31 zQ32 zQ40 zQ41 zQ42 B1 B2 AP1 AP2 AP3 AP4 AQ1 AQ2 AQ3 AQ4 rnP1 rdP1 rnP2 rdP2 rnP3 rdP3 rnP4 rdP4 rnQ1 rdQ1 rnQ2 rdQ2 rnQ3 rdQ3 rnQ4 rdQ4 ⊢
  obtain rfl : lnQ1 = lnP1 := val_inj mnQ1 mnP1 pnQ1 pnP1 (by rw [enQ1.out, enP1.out])
  obtain rfl : ldQ1 = ldP1 := val_inj mdQ1 mdP1 pdQ1 pdP1 (by rw [edQ1.out, edP1.out])
  have hn12 := rat_len pnQ1 enQ1.out (RN_le _ _) y1
  have hd12 := rat_len pdQ1 edQ1.out (RD_le _ _) y5
  have hAl := Alike_same s1 anP1 adP1 anQ1 adQ1 cnP1 cdP1 cnQ1 cdQ1 lnQ1 ldQ1 U11 (by omega) (by omega) rnP1 rdP1 rnQ1 rdQ1
  refine hAl.mono ?_
  rintro e u12 ⟨rfl, l12⟩
  clear hAl
  clear x0 x1 x2 x3 x4 x5 zP10 zP11 zP12 zP20 zP21 zP22 zP30 zP31 zP32 zP40 zP41 zP42 zQ10 zQ11 zQ12 zQ20 zQ21 zQ22 zQ30 zQ31 zQ32 zQ40 zQ41 zQ42
  have B1 := B1.keep l12
  have B2 := B2.keep l12
  have AP1 := AP1.keep l12
  have AP2 := AP2.keep l12
  have AP3 := AP3.keep l12
  have AP4 := AP4.keep l12
  have AQ1 := AQ1.keep l12
  have AQ2 := AQ2.keep l12
  have AQ3 := AQ3.keep l12
  have AQ4 := AQ4.keep l12
  have rnP1 := rnP1.keep l12
  have rdP1 := rdP1.keep l12
  have rnP2 := rnP2.keep l12
  have rdP2 := rdP2.keep l12
  have rnP3 := rnP3.keep l12
  have rdP3 := rdP3.keep l12
  have rnP4 := rnP4.keep l12
  have rdP4 := rdP4.keep l12
  have rnQ1 := rnQ1.keep l12
  have rdQ1 := rdQ1.keep l12
  have rnQ2 := rnQ2.keep l12
  have rdQ2 := rdQ2.keep l12
  have rnQ3 := rnQ3.keep l12
  have rdQ3 := rdQ3.keep l12
  have rnQ4 := rnQ4.keep l12
  have rdQ4 := rdQ4.keep l12
  have kk12 := kk11.trans l12
  obtain ⟨x0, x1, x2⟩ := B1.cells
  obtain ⟨x3, x4, x5⟩ := B2.cells
  obtain ⟨zP10, zP11, zP12⟩ := AP1.cells
  obtain ⟨zP20, zP21, zP22⟩ := AP2.cells
  obtain ⟨zP30, zP31, zP32⟩ := AP3.cells
  obtain ⟨zP40, zP41, zP42⟩ := AP4.cells
  obtain ⟨zQ10, zQ11, zQ12⟩ := AQ1.cells
  obtain ⟨zQ20, zQ21, zQ22⟩ := AQ2.cells
  obtain ⟨zQ30, zQ31, zQ32⟩ := AQ3.cells
  obtain ⟨zQ40, zQ41, zQ42⟩ := AQ4.cells
  go_wp2_with fail
  obtain rfl : lnQ2 = lnP2 := val_inj mnQ2 mnP2 pnQ2 pnP2 (by rw [enQ2.out, enP2.out])
  obtain rfl : ldQ2 = ldP2 := val_inj mdQ2 mdP2 pdQ2 pdP2 (by rw [edQ2.out, edP2.out])
  have hn13 := rat_len pnQ2 enQ2.out (RN_le _ _) y2
  have hd13 := rat_len pdQ2 edQ2.out (RD_le _ _) y5
  have hAl := Alike_same s2 anP2 adP2 anQ2 adQ2 cnP2 cdP2 cnQ2 cdQ2 lnQ2 ldQ2 u12 (by omega) (by omega) rnP2 rdP2 rnQ2 rdQ2
  refine hAl.mono ?_
  rintro e u13 ⟨rfl, l13⟩
  clear hAl
  clear x0 x1 x2 x3 x4 x5 zP10 zP11 zP12 zP20 zP21 zP22 zP30 zP31 zP32 zP40 zP41 zP42 zQ10 zQ11 zQ12 zQ20 zQ21 zQ22 zQ30 zQ31 zQ32 zQ40 zQ41 zQ42
  have B1 := B1.keep l13
  have B2 := B2.keep l13
  have AP1 := AP1.keep l13
  have AP2 := AP2.keep l13
  have AP3 := AP3.keep l13
  have AP4 := AP4.keep l13
  have AQ1 := AQ1.keep l13
  have AQ2 := AQ2.keep l13
  have AQ3 := AQ3.keep l13
  have AQ4 := AQ4.keep l13
  have rnP1 := rnP1.keep l13
  have rdP1 := rdP1.keep l13
  have rnP2 := rnP2.keep l13
  have rdP2 := rdP2.keep l13
  have rnP3 := rnP3.keep l13
  have rdP3 := rdP3.keep l13
  have rnP4 := rnP4.keep l13
  have rdP4 := rdP4.keep l13
  have rnQ1 := rnQ1.keep l13
  have rdQ1 := rdQ1.keep l13
  have rnQ2 := rnQ2.keep l13
  have rdQ2 := rdQ2.keep l13
  have rnQ3 := rnQ3.keep l13
  have rdQ3 := rdQ3.keep l13
  have rnQ4 := rnQ4.keep l13
  have rdQ4 := rdQ4.keep l13
  have kk13 := kk12.trans l13
  obtain ⟨x0, x1, x2⟩ := B1.cells
  obtain ⟨x3, x4, x5⟩ := B2.cells
  obtain ⟨zP10, zP11, zP12⟩ := AP1.cells
  obtain ⟨zP20, zP21, zP22⟩ := AP2.cells
  obtain ⟨zP30, zP31, zP32⟩ := AP3.cells
  obtain ⟨zP40, zP41, zP42⟩ := AP4.cells
  obtain ⟨zQ10, zQ11, zQ12⟩ := AQ1.cells
  obtain ⟨zQ20, zQ21, zQ22⟩ := AQ2.cells
  obtain ⟨zQ30, zQ31, zQ32⟩ := AQ3.cells
  obtain ⟨zQ40, zQ41, zQ42⟩ := AQ4.cells
  go_wp2_with fail
  obtain rfl : lnQ3 = lnP3 := val_inj mnQ3 mnP3 pnQ3 pnP3 (by rw [enQ3.out, enP3.out])
  obtain rfl : ldQ3 = ldP3 := val_inj mdQ3 mdP3 pdQ3 pdP3 (by rw [edQ3.out, edP3.out])
  have hn14 := rat_len pnQ3 enQ3.out (RN_le _ _) y3
  have hd14 := rat_len pdQ3 edQ3.out (RD_le _ _) y5
  have hAl := Alike_same s3 anP3 adP3 anQ3 adQ3 cnP3 cdP3 cnQ3 cdQ3 lnQ3 ldQ3 u13 (by omega) (by omega) rnP3 rdP3 rnQ3 rdQ3
  refine hAl.mono ?_
  rintro e u14 ⟨rfl, l14⟩
  clear hAl
  clear x0 x1 x2 x3 x4 x5 zP10 zP11 zP12 zP20 zP21 zP22 zP30 zP31 zP32 zP40 zP41 zP42 zQ10 zQ11 zQ12 zQ20 zQ21 zQ22 zQ30 zQ31 zQ32 zQ40 zQ41 zQ42
  have B1 := B1.keep l14
  have B2 := B2.keep l14
  have AP1 := AP1.keep l14
  have AP2 := AP2.keep l14
  have AP3 := AP3.keep l14
  have AP4 := AP4.keep l14
  have AQ1 := AQ1.keep l14
  have AQ2 := AQ2.keep l14
  have AQ3 := AQ3.keep l14
  have AQ4 := AQ4.keep l14
  have rnP1 := rnP1.keep l14
  have rdP1 := rdP1.keep l14
  have rnP2 := rnP2.keep l14
  have rdP2 := rdP2.keep l14
  have rnP3 := rnP3.keep l14
  have rdP3 := rdP3.keep l14
  have rnP4 := rnP4.keep l14
  have rdP4 := rdP4.keep l14
  have rnQ1 := rnQ1.keep l14
  have rdQ1 := rdQ1.keep l14
  have rnQ2 := rnQ2.keep l14
  have rdQ2 := rdQ2.keep l14
  have rnQ3 := rnQ3.keep l14
  have rdQ3 := rdQ3.keep l14
  have rnQ4 := rnQ4.keep l14
  have rdQ4 := rdQ4.keep l14
  have kk14 := kk13.trans l14
  obtain ⟨x0, x1, x2⟩ := B1.cells
  obtain ⟨x3, x4, x5⟩ := B2.cells
  obtain ⟨zP10, zP11, zP12⟩ := AP1.cells
  obtain ⟨zP20, zP21, zP22⟩ := AP2.cells
  obtain ⟨zP30, zP31, zP32⟩ := AP3.cells
  obtain ⟨zP40, zP41, zP42⟩ := AP4.cells
  obtain ⟨zQ10, zQ11, zQ12⟩ := AQ1.cells
  obtain ⟨zQ20, zQ21, zQ22⟩ := AQ2.cells
  obtain ⟨zQ30, zQ31, zQ32⟩ := AQ3.cells
  obtain ⟨zQ40, zQ41, zQ42⟩ := AQ4.cells
  go_wp2_with fail
  obtain rfl : lnQ4 = lnP4 := val_inj mnQ4 mnP4 pnQ4 pnP4 (by rw [enQ4.out, enP4.out])
  obtain rfl : ldQ4 = ldP4 := val_inj mdQ4 mdP4 pdQ4 pdP4 (by rw [edQ4.out, edP4.out])
  have hn15 := rat_len pnQ4 enQ4.out (RN_le _ _) y4
  have hd15 := rat_len pdQ4 edQ4.out (RD_le _ _) gD
  have hAl := Alike_same s4 anP4 adP4 anQ4 adQ4 cnP4 cdP4 cnQ4 cdQ4 lnQ4 ldQ4 u14 (by omega) (by omega) rnP4 rdP4 rnQ4 rdQ4
  refine hAl.mono ?_
  rintro e u15 ⟨rfl, l15⟩
  clear hAl
  clear x0 x1 x2 x3 x4 x5 zP10 zP11 zP12 zP20 zP21 zP22 zP30 zP31 zP32 zP40 zP41 zP42 zQ10 zQ11 zQ12 zQ20 zQ21 zQ22 zQ30 zQ31 zQ32 zQ40 zQ41 zQ42
  have B1 := B1.keep l15
  have B2 := B2.keep l15
  have AP1 := AP1.keep l15
  have AP2 := AP2.keep l15
  have AP3 := AP3.keep l15
  have AP4 := AP4.keep l15
  have AQ1 := AQ1.keep l15
  have AQ2 := AQ2.keep l15
  have AQ3 := AQ3.keep l15
  have AQ4 := AQ4.keep l15
  have rnP1 := rnP1.keep l15
  have rdP1 := rdP1.keep l15
  have rnP2 := rnP2.keep l15
  have rdP2 := rdP2.keep l15
  have rnP3 := rnP3.keep l15
  have rdP3 := rdP3.keep l15
  have rnP4 := rnP4.keep l15
  have rdP4 := rdP4.keep l15
  have rnQ1 := rnQ1.keep l15
  have rdQ1 := rdQ1.keep l15
  have rnQ2 := rnQ2.keep l15
  have rdQ2 := rdQ2.keep l15
  have rnQ3 := rnQ3.keep l15
  have rdQ3 := rdQ3.keep l15
  have rnQ4 := rnQ4.keep l15
  have rdQ4 := rdQ4.keep l15
  have kk15 := kk14.trans l15
  obtain ⟨x0, x1, x2⟩ := B1.cells
  obtain ⟨x3, x4, x5⟩ := B2.cells
  obtain ⟨zP10, zP11, zP12⟩ := AP1.cells
  obtain ⟨zP20, zP21, zP22⟩ := AP2.cells
  obtain ⟨zP30, zP31, zP32⟩ := AP3.cells
  obtain ⟨zP40, zP41, zP42⟩ := AP4.cells
  obtain ⟨zQ10, zQ11, zQ12⟩ := AQ1.cells
  obtain ⟨zQ20, zQ21, zQ22⟩ := AQ2.cells
  obtain ⟨zQ30, zQ31, zQ32⟩ := AQ3.cells
  obtain ⟨zQ40, zQ41, zQ42⟩ := AQ4.cells
  go_wp2_with fail
  clear AP1 zP10 zP11 zP12 AQ1 zQ10 zQ11 zQ12 AP2 zP20 zP21 zP22 AQ2 zQ20 zQ21 zQ22 AP3 zP30 zP31 zP32 AQ3 zQ30 zQ31 zQ32 AP4 zP40 zP41 zP42 AQ4 zQ40 zQ41 zQ42
  refine (cC u15 kk15).mono ?_
  rintro e t1 ⟨rfl, m1⟩
  rw [HR1.out]
  have mk1 := kk15.trans m1
  clear x0 x1 x2 x3 x4 x5
  have B1 := B1.keep m1
  have B2 := B2.keep m1
  obtain ⟨x0, x1, x2⟩ := B1.cells
  obtain ⟨x3, x4, x5⟩ := B2.cells
  go_wp2_with fail
  refine (cE t1 mk1).mono ?_
  rintro e t2 ⟨rfl, m2⟩
  rw [HR1.out]
  go_wp2_with fail
  go_ret
  exact ⟨rfl, mk1.trans m2⟩
end Go.Proofs.YtbjidpooociamaaDoor
