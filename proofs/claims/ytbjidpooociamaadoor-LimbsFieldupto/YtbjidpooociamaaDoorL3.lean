import Derived.Test.YtbjidpooociamaaDoorL2
import Derived.Test.YtbjidpooociamaaDoorRatios
namespace Go.Proofs.YtbjidpooociamaaDoor
open Go.RowKit Lb
set_option maxRecDepth 100000 in
set_option maxHeartbeats 6400000 in
theorem field_e0 (n1 n2 n3 : Bool) (a b c d f h : Option Addr) (ca cb cc cd cf ch : Nat) (la lb lc ld lf lh : List Nat) (w : World) (hA : Arg2 w a ca la b cb lb) (hB : Arg2 w c cc lc d cd ld) (hC : Arg2 w f cf lf h ch lh) (sa : la.length + lb.length + lc.length + ld.length + lf.length + lh.length ≤ 1048576) (h0 : val lb = 0) :
    Calls Tryd.prog 11 #[.agg #[.bool n1, .slice a la.length ca, .slice b lb.length cb], .agg #[.bool n2, .slice c lc.length cc, .slice d ld.length cd], .agg #[.bool n3, .slice f lf.length cf, .slice h lh.length ch]] w fun e w' => e = .returned (.bool true) ∧ Keep w w' := by
  obtain ⟨W, hW, B1, B2, B3, kW, -⟩ := lay3 w (.bool n1) (.slice a la.length ca) (.slice b lb.length cb) (.bool n2) (.slice c lc.length cc) (.slice d ld.length cd) (.bool n3) (.slice f lf.length cf) (.slice h lh.length ch)
  obtain ⟨K, hK⟩ : ∃ K, K = 2097152 := ⟨_, rfl⟩
  go_enter Tryd.func11, Tryd.ntmps11
  go_wp2_with fail
  rw [← hW]
  clear hW
  refine (lives_any W).mono ?_
  rintro e v0 ⟨rfl, j0⟩
  have kv0 := kW.trans j0
  have B1 := B1.keep j0
  have B2 := B2.keep j0
  have B3 := B3.keep j0
  obtain ⟨x0, x1, x2⟩ := B1.cells
  obtain ⟨x3, x4, x5⟩ := B2.cells
  obtain ⟨x6, x7, x8⟩ := B3.cells
  go_wp2_with fail
  have HRX : Hid (RE (val lb) = 11) := by show _ = _; simp [RE, h0]
  have cX := Over_form n1 a b ca cb la lb v0 hA.hca hA.hcb (by have := hA.hla; omega) (by have := hA.hlb; omega) (hA.hra.keep kv0) (hA.hrb.keep kv0) hA.hma hA.hmb
  obtain ⟨sX, hsX⟩ : ∃ s, RS n1 (val la) (val lb) = s := ⟨_, rfl⟩
  have HSX : Hid (RS n1 (val la) (val lb) = sX) := hsX
  clear hsX
  refine cX.mono ?_
  rintro e u1 ⟨anX, cnX, lnX, adX, cdX, ldX, rfl, hcX, hdX, rnX, rdX, mnX, mdX, pnX, pdX, enX, edX, l1⟩
  rw [HSX.out, HRX.out]
  have lx1 : Keep u1 (u1.alloc (Obj.cells #[Value.bool sX, Value.slice anX lnX.length cnX, Value.slice adX ldX.length cdX] 47)) := (Keep.refl u1).alloc _
  have AX := Box.new u1 (.bool sX) (.slice anX lnX.length cnX) (.slice adX ldX.length cdX)
  have ll1 := l1.trans lx1
  replace enX : Hid (val lnX = RN (val la) (val lb)) := enX
  replace edX : Hid (val ldX = RD (val la) (val lb)) := edX
  clear cX
  clear x0 x1 x2 x3 x4 x5 x6 x7 x8
  have B1 := B1.keep ll1
  have B2 := B2.keep ll1
  have B3 := B3.keep ll1
  have rnX := rnX.keep lx1
  have rdX := rdX.keep lx1
  have kk1 := kv0.trans ll1
  obtain ⟨x0, x1, x2⟩ := B1.cells
  obtain ⟨x3, x4, x5⟩ := B2.cells
  obtain ⟨x6, x7, x8⟩ := B3.cells
  obtain ⟨zX0, zX1, zX2⟩ := AX.cells
  go_wp2_with fail
  generalize u1.alloc _ = U1 at lx1 ll1 kk1 x0 x1 x2 x3 x4 x5 x6 x7 x8 zX0 zX1 zX2 B1 B2 B3 AX rnX rdX ⊢
  have znX : lnX.length ≤ 1048576 := Nat.le_trans (rat_len pnX enX.out (RN_le _ _) (val_lt hA.hma)) (by omega)
  have zdX : ldX.length ≤ 1048576 := Nat.le_trans (rat_len pdX edX.out (RD_le _ _) (val_lt hA.hmb)) (by omega)
  obtain ⟨erY, herY⟩ : ∃ x, RE (val ld) = x := ⟨_, rfl⟩
  have HRY : Hid (RE (val ld) = erY) := herY
  clear herY
  have cY := Over_form n2 c d cc cd lc ld U1 hB.hca hB.hcb (by have := hB.hla; omega) (by have := hB.hlb; omega) (hB.hra.keep kk1) (hB.hrb.keep kk1) hB.hma hB.hmb
  obtain ⟨sY, hsY⟩ : ∃ s, RS n2 (val lc) (val ld) = s := ⟨_, rfl⟩
  have HSY : Hid (RS n2 (val lc) (val ld) = sY) := hsY
  clear hsY
  refine cY.mono ?_
  rintro e u2 ⟨anY, cnY, lnY, adY, cdY, ldY, rfl, hcY, hdY, rnY, rdY, mnY, mdY, pnY, pdY, enY, edY, l2⟩
  rw [HSY.out, HRY.out]
  have lx2 : Keep u2 (u2.alloc (Obj.cells #[Value.bool sY, Value.slice anY lnY.length cnY, Value.slice adY ldY.length cdY] 47)) := (Keep.refl u2).alloc _
  have AY := Box.new u2 (.bool sY) (.slice anY lnY.length cnY) (.slice adY ldY.length cdY)
  have ll2 := l2.trans lx2
  replace enY : Hid (val lnY = RN (val lc) (val ld)) := enY
  replace edY : Hid (val ldY = RD (val lc) (val ld)) := edY
  clear cY
  clear x0 x1 x2 x3 x4 x5 x6 x7 x8 zX0 zX1 zX2
  have B1 := B1.keep ll2
  have B2 := B2.keep ll2
  have B3 := B3.keep ll2
  have AX := AX.keep ll2
  have rnX := rnX.keep ll2
  have rdX := rdX.keep ll2
  have rnY := rnY.keep lx2
  have rdY := rdY.keep lx2
  have kk2 := kk1.trans ll2
  obtain ⟨x0, x1, x2⟩ := B1.cells
  obtain ⟨x3, x4, x5⟩ := B2.cells
  obtain ⟨x6, x7, x8⟩ := B3.cells
  obtain ⟨zX0, zX1, zX2⟩ := AX.cells
  obtain ⟨zY0, zY1, zY2⟩ := AY.cells
  go_wp2_with fail
  generalize u2.alloc _ = U2 at lx2 ll2 kk2 x0 x1 x2 x3 x4 x5 x6 x7 x8 zX0 zX1 zX2 zY0 zY1 zY2 B1 B2 B3 AX AY rnX rdX rnY rdY ⊢
  obtain ⟨erZ, herZ⟩ : ∃ x, RE (val lh) = x := ⟨_, rfl⟩
  have HRZ : Hid (RE (val lh) = erZ) := herZ
  clear herZ
  have cZ := Over_form n3 f h cf ch lf lh U2 hC.hca hC.hcb (by have := hC.hla; omega) (by have := hC.hlb; omega) (hC.hra.keep kk2) (hC.hrb.keep kk2) hC.hma hC.hmb
  obtain ⟨sZ, hsZ⟩ : ∃ s, RS n3 (val lf) (val lh) = s := ⟨_, rfl⟩
  have HSZ : Hid (RS n3 (val lf) (val lh) = sZ) := hsZ
  clear hsZ
  refine cZ.mono ?_
  rintro e u3 ⟨anZ, cnZ, lnZ, adZ, cdZ, ldZ, rfl, hcZ, hdZ, rnZ, rdZ, mnZ, mdZ, pnZ, pdZ, enZ, edZ, l3⟩
  rw [HSZ.out, HRZ.out]
  have lx3 : Keep u3 (u3.alloc (Obj.cells #[Value.bool sZ, Value.slice anZ lnZ.length cnZ, Value.slice adZ ldZ.length cdZ] 47)) := (Keep.refl u3).alloc _
  have AZ := Box.new u3 (.bool sZ) (.slice anZ lnZ.length cnZ) (.slice adZ ldZ.length cdZ)
  have ll3 := l3.trans lx3
  replace enZ : Hid (val lnZ = RN (val lf) (val lh)) := enZ
  replace edZ : Hid (val ldZ = RD (val lf) (val lh)) := edZ
  clear cZ
  clear x0 x1 x2 x3 x4 x5 x6 x7 x8 zX0 zX1 zX2 zY0 zY1 zY2
  have B1 := B1.keep ll3
  have B2 := B2.keep ll3
  have B3 := B3.keep ll3
  have AX := AX.keep ll3
  have AY := AY.keep ll3
  have rnX := rnX.keep ll3
  have rdX := rdX.keep ll3
  have rnY := rnY.keep ll3
  have rdY := rdY.keep ll3
  have rnZ := rnZ.keep lx3
  have rdZ := rdZ.keep lx3
  have kk3 := kk2.trans ll3
  obtain ⟨x0, x1, x2⟩ := B1.cells
  obtain ⟨x3, x4, x5⟩ := B2.cells
  obtain ⟨x6, x7, x8⟩ := B3.cells
  obtain ⟨zX0, zX1, zX2⟩ := AX.cells
  obtain ⟨zY0, zY1, zY2⟩ := AY.cells
  obtain ⟨zZ0, zZ1, zZ2⟩ := AZ.cells
  go_wp2_with fail
  generalize u3.alloc _ = U3 at lx3 ll3 kk3 x0 x1 x2 x3 x4 x5 x6 x7 x8 zX0 zX1 zX2 zY0 zY1 zY2 zZ0 zZ1 zZ2 B1 B2 B3 AX AY AZ rnX rdX rnY rdY rnZ rdZ ⊢
  have cN4 := Len_any b cb lb U3 hA.hcb (by have := hA.hlb; omega) (hA.hrb.keep kk3) hA.hmb
  rw [(lenB_nought hA.hmb).2 h0] at cN4
  refine cN4.mono ?_
  rintro e u4 ⟨rfl, dr4⟩
  have l4 := dr4.keep
  clear cN4
  clear x0 x1 x2 x3 x4 x5 x6 x7 x8 zX0 zX1 zX2 zY0 zY1 zY2 zZ0 zZ1 zZ2
  have B1 := B1.keep l4
  have B2 := B2.keep l4
  have B3 := B3.keep l4
  have AX := AX.keep l4
  have AY := AY.keep l4
  have AZ := AZ.keep l4
  have rnX := rnX.keep l4
  have rdX := rdX.keep l4
  have rnY := rnY.keep l4
  have rdY := rdY.keep l4
  have rnZ := rnZ.keep l4
  have rdZ := rdZ.keep l4
  have kk4 := kk3.trans l4
  obtain ⟨x0, x1, x2⟩ := B1.cells
  obtain ⟨x3, x4, x5⟩ := B2.cells
  obtain ⟨x6, x7, x8⟩ := B3.cells
  obtain ⟨zX0, zX1, zX2⟩ := AX.cells
  obtain ⟨zY0, zY1, zY2⟩ := AY.cells
  obtain ⟨zZ0, zZ1, zZ2⟩ := AZ.cells
  go_wp2_with fail
  go_ret
  exact ⟨rfl, kk4⟩
set_option maxRecDepth 100000 in
set_option maxHeartbeats 6400000 in
theorem field_e1 (n1 n2 n3 : Bool) (a b c d f h : Option Addr) (ca cb cc cd cf ch : Nat) (la lb lc ld lf lh : List Nat) (w : World) (hA : Arg2 w a ca la b cb lb) (hB : Arg2 w c cc lc d cd ld) (hC : Arg2 w f cf lf h ch lh) (sa : la.length + lb.length + lc.length + ld.length + lf.length + lh.length ≤ 1048576) (h0 : val lb ≠ 0) (h1 : val ld = 0) :
    Calls Tryd.prog 11 #[.agg #[.bool n1, .slice a la.length ca, .slice b lb.length cb], .agg #[.bool n2, .slice c lc.length cc, .slice d ld.length cd], .agg #[.bool n3, .slice f lf.length cf, .slice h lh.length ch]] w fun e w' => e = .returned (.bool true) ∧ Keep w w' := by
  obtain ⟨W, hW, B1, B2, B3, kW, -⟩ := lay3 w (.bool n1) (.slice a la.length ca) (.slice b lb.length cb) (.bool n2) (.slice c lc.length cc) (.slice d ld.length cd) (.bool n3) (.slice f lf.length cf) (.slice h lh.length ch)
  obtain ⟨K, hK⟩ : ∃ K, K = 2097152 := ⟨_, rfl⟩
  go_enter Tryd.func11, Tryd.ntmps11
  go_wp2_with fail
  rw [← hW]
  clear hW
  refine (lives_any W).mono ?_
  rintro e v0 ⟨rfl, j0⟩
  have kv0 := kW.trans j0
  have B1 := B1.keep j0
  have B2 := B2.keep j0
  have B3 := B3.keep j0
  obtain ⟨x0, x1, x2⟩ := B1.cells
  obtain ⟨x3, x4, x5⟩ := B2.cells
  obtain ⟨x6, x7, x8⟩ := B3.cells
  go_wp2_with fail
  have HRX : Hid (RE (val lb) = 0) := by show _ = _; simp [RE, h0]
  have cX := Over_form n1 a b ca cb la lb v0 hA.hca hA.hcb (by have := hA.hla; omega) (by have := hA.hlb; omega) (hA.hra.keep kv0) (hA.hrb.keep kv0) hA.hma hA.hmb
  obtain ⟨sX, hsX⟩ : ∃ s, RS n1 (val la) (val lb) = s := ⟨_, rfl⟩
  have HSX : Hid (RS n1 (val la) (val lb) = sX) := hsX
  clear hsX
  refine cX.mono ?_
  rintro e u1 ⟨anX, cnX, lnX, adX, cdX, ldX, rfl, hcX, hdX, rnX, rdX, mnX, mdX, pnX, pdX, enX, edX, l1⟩
  rw [HSX.out, HRX.out]
  have lx1 : Keep u1 (u1.alloc (Obj.cells #[Value.bool sX, Value.slice anX lnX.length cnX, Value.slice adX ldX.length cdX] 47)) := (Keep.refl u1).alloc _
  have AX := Box.new u1 (.bool sX) (.slice anX lnX.length cnX) (.slice adX ldX.length cdX)
  have ll1 := l1.trans lx1
  replace enX : Hid (val lnX = RN (val la) (val lb)) := enX
  replace edX : Hid (val ldX = RD (val la) (val lb)) := edX
  clear cX
  clear x0 x1 x2 x3 x4 x5 x6 x7 x8
  have B1 := B1.keep ll1
  have B2 := B2.keep ll1
  have B3 := B3.keep ll1
  have rnX := rnX.keep lx1
  have rdX := rdX.keep lx1
  have kk1 := kv0.trans ll1
  obtain ⟨x0, x1, x2⟩ := B1.cells
  obtain ⟨x3, x4, x5⟩ := B2.cells
  obtain ⟨x6, x7, x8⟩ := B3.cells
  obtain ⟨zX0, zX1, zX2⟩ := AX.cells
  go_wp2_with fail
  generalize u1.alloc _ = U1 at lx1 ll1 kk1 x0 x1 x2 x3 x4 x5 x6 x7 x8 zX0 zX1 zX2 B1 B2 B3 AX rnX rdX ⊢
  have znX : lnX.length ≤ 1048576 := Nat.le_trans (rat_len pnX enX.out (RN_le _ _) (val_lt hA.hma)) (by omega)
  have zdX : ldX.length ≤ 1048576 := Nat.le_trans (rat_len pdX edX.out (RD_le _ _) (val_lt hA.hmb)) (by omega)
  have HRY : Hid (RE (val ld) = 11) := by show _ = _; simp [RE, h1]
  have cY := Over_form n2 c d cc cd lc ld U1 hB.hca hB.hcb (by have := hB.hla; omega) (by have := hB.hlb; omega) (hB.hra.keep kk1) (hB.hrb.keep kk1) hB.hma hB.hmb
  obtain ⟨sY, hsY⟩ : ∃ s, RS n2 (val lc) (val ld) = s := ⟨_, rfl⟩
  have HSY : Hid (RS n2 (val lc) (val ld) = sY) := hsY
  clear hsY
  refine cY.mono ?_
  rintro e u2 ⟨anY, cnY, lnY, adY, cdY, ldY, rfl, hcY, hdY, rnY, rdY, mnY, mdY, pnY, pdY, enY, edY, l2⟩
  rw [HSY.out, HRY.out]
  have lx2 : Keep u2 (u2.alloc (Obj.cells #[Value.bool sY, Value.slice anY lnY.length cnY, Value.slice adY ldY.length cdY] 47)) := (Keep.refl u2).alloc _
  have AY := Box.new u2 (.bool sY) (.slice anY lnY.length cnY) (.slice adY ldY.length cdY)
  have ll2 := l2.trans lx2
  replace enY : Hid (val lnY = RN (val lc) (val ld)) := enY
  replace edY : Hid (val ldY = RD (val lc) (val ld)) := edY
  clear cY
  clear x0 x1 x2 x3 x4 x5 x6 x7 x8 zX0 zX1 zX2
  have B1 := B1.keep ll2
  have B2 := B2.keep ll2
  have B3 := B3.keep ll2
  have AX := AX.keep ll2
  have rnX := rnX.keep ll2
  have rdX := rdX.keep ll2
  have rnY := rnY.keep lx2
  have rdY := rdY.keep lx2
  have kk2 := kk1.trans ll2
  obtain ⟨x0, x1, x2⟩ := B1.cells
  obtain ⟨x3, x4, x5⟩ := B2.cells
  obtain ⟨x6, x7, x8⟩ := B3.cells
  obtain ⟨zX0, zX1, zX2⟩ := AX.cells
  obtain ⟨zY0, zY1, zY2⟩ := AY.cells
  go_wp2_with fail
  generalize u2.alloc _ = U2 at lx2 ll2 kk2 x0 x1 x2 x3 x4 x5 x6 x7 x8 zX0 zX1 zX2 zY0 zY1 zY2 B1 B2 B3 AX AY rnX rdX rnY rdY ⊢
  have znY : lnY.length ≤ 1048576 := Nat.le_trans (rat_len pnY enY.out (RN_le _ _) (val_lt hB.hma)) (by omega)
  have zdY : ldY.length ≤ 1048576 := Nat.le_trans (rat_len pdY edY.out (RD_le _ _) (val_lt hB.hmb)) (by omega)
  obtain ⟨erZ, herZ⟩ : ∃ x, RE (val lh) = x := ⟨_, rfl⟩
  have HRZ : Hid (RE (val lh) = erZ) := herZ
  clear herZ
  have cZ := Over_form n3 f h cf ch lf lh U2 hC.hca hC.hcb (by have := hC.hla; omega) (by have := hC.hlb; omega) (hC.hra.keep kk2) (hC.hrb.keep kk2) hC.hma hC.hmb
  obtain ⟨sZ, hsZ⟩ : ∃ s, RS n3 (val lf) (val lh) = s := ⟨_, rfl⟩
  have HSZ : Hid (RS n3 (val lf) (val lh) = sZ) := hsZ
  clear hsZ
  refine cZ.mono ?_
  rintro e u3 ⟨anZ, cnZ, lnZ, adZ, cdZ, ldZ, rfl, hcZ, hdZ, rnZ, rdZ, mnZ, mdZ, pnZ, pdZ, enZ, edZ, l3⟩
  rw [HSZ.out, HRZ.out]
  have lx3 : Keep u3 (u3.alloc (Obj.cells #[Value.bool sZ, Value.slice anZ lnZ.length cnZ, Value.slice adZ ldZ.length cdZ] 47)) := (Keep.refl u3).alloc _
  have AZ := Box.new u3 (.bool sZ) (.slice anZ lnZ.length cnZ) (.slice adZ ldZ.length cdZ)
  have ll3 := l3.trans lx3
  replace enZ : Hid (val lnZ = RN (val lf) (val lh)) := enZ
  replace edZ : Hid (val ldZ = RD (val lf) (val lh)) := edZ
  clear cZ
  clear x0 x1 x2 x3 x4 x5 x6 x7 x8 zX0 zX1 zX2 zY0 zY1 zY2
  have B1 := B1.keep ll3
  have B2 := B2.keep ll3
  have B3 := B3.keep ll3
  have AX := AX.keep ll3
  have AY := AY.keep ll3
  have rnX := rnX.keep ll3
  have rdX := rdX.keep ll3
  have rnY := rnY.keep ll3
  have rdY := rdY.keep ll3
  have rnZ := rnZ.keep lx3
  have rdZ := rdZ.keep lx3
  have kk3 := kk2.trans ll3
  obtain ⟨x0, x1, x2⟩ := B1.cells
  obtain ⟨x3, x4, x5⟩ := B2.cells
  obtain ⟨x6, x7, x8⟩ := B3.cells
  obtain ⟨zX0, zX1, zX2⟩ := AX.cells
  obtain ⟨zY0, zY1, zY2⟩ := AY.cells
  obtain ⟨zZ0, zZ1, zZ2⟩ := AZ.cells
  go_wp2_with fail
  generalize u3.alloc _ = U3 at lx3 ll3 kk3 x0 x1 x2 x3 x4 x5 x6 x7 x8 zX0 zX1 zX2 zY0 zY1 zY2 zZ0 zZ1 zZ2 B1 B2 B3 AX AY AZ rnX rdX rnY rdY rnZ rdZ ⊢
  have cN4 := Len_any b cb lb U3 hA.hcb (by have := hA.hlb; omega) (hA.hrb.keep kk3) hA.hmb
  have wn4 : lenB lb ≠ 0 := fun e => h0 ((lenB_nought hA.hmb).1 e)
  generalize lenB lb = M4 at cN4 wn4
  have gn4 : ((M4 : Int) == 0) = false := by simp; omega
  refine cN4.mono ?_
  rintro e u4 ⟨rfl, dr4⟩
  have l4 := dr4.keep
  clear cN4
  clear x0 x1 x2 x3 x4 x5 x6 x7 x8 zX0 zX1 zX2 zY0 zY1 zY2 zZ0 zZ1 zZ2
  have B1 := B1.keep l4
  have B2 := B2.keep l4
  have B3 := B3.keep l4
  have AX := AX.keep l4
  have AY := AY.keep l4
  have AZ := AZ.keep l4
  have rnX := rnX.keep l4
  have rdX := rdX.keep l4
  have rnY := rnY.keep l4
  have rdY := rdY.keep l4
  have rnZ := rnZ.keep l4
  have rdZ := rdZ.keep l4
  have kk4 := kk3.trans l4
  obtain ⟨x0, x1, x2⟩ := B1.cells
  obtain ⟨x3, x4, x5⟩ := B2.cells
  obtain ⟨x6, x7, x8⟩ := B3.cells
  obtain ⟨zX0, zX1, zX2⟩ := AX.cells
  obtain ⟨zY0, zY1, zY2⟩ := AY.cells
  obtain ⟨zZ0, zZ1, zZ2⟩ := AZ.cells
  go_wp2_with fail
  have cN5 := Len_any d cd ld u4 hB.hcb (by have := hB.hlb; omega) (hB.hrb.keep kk4) hB.hmb
  rw [(lenB_nought hB.hmb).2 h1] at cN5
  refine cN5.mono ?_
  rintro e u5 ⟨rfl, dr5⟩
  have l5 := dr5.keep
  clear cN5
  clear x0 x1 x2 x3 x4 x5 x6 x7 x8 zX0 zX1 zX2 zY0 zY1 zY2 zZ0 zZ1 zZ2
  have B1 := B1.keep l5
  have B2 := B2.keep l5
  have B3 := B3.keep l5
  have AX := AX.keep l5
  have AY := AY.keep l5
  have AZ := AZ.keep l5
  have rnX := rnX.keep l5
  have rdX := rdX.keep l5
  have rnY := rnY.keep l5
  have rdY := rdY.keep l5
  have rnZ := rnZ.keep l5
  have rdZ := rdZ.keep l5
  have kk5 := kk4.trans l5
  obtain ⟨x0, x1, x2⟩ := B1.cells
  obtain ⟨x3, x4, x5⟩ := B2.cells
  obtain ⟨x6, x7, x8⟩ := B3.cells
  obtain ⟨zX0, zX1, zX2⟩ := AX.cells
  obtain ⟨zY0, zY1, zY2⟩ := AY.cells
  obtain ⟨zZ0, zZ1, zZ2⟩ := AZ.cells
  go_wp2_with fail
  go_ret
  exact ⟨rfl, kk5⟩
set_option maxRecDepth 100000 in
set_option maxHeartbeats 6400000 in
theorem field_e2 (n1 n2 n3 : Bool) (a b c d f h : Option Addr) (ca cb cc cd cf ch : Nat) (la lb lc ld lf lh : List Nat) (w : World) (hA : Arg2 w a ca la b cb lb) (hB : Arg2 w c cc lc d cd ld) (hC : Arg2 w f cf lf h ch lh) (sa : la.length + lb.length + lc.length + ld.length + lf.length + lh.length ≤ 1048576) (h0 : val lb ≠ 0) (h1 : val ld ≠ 0) (h2 : val lh = 0) :
    Calls Tryd.prog 11 #[.agg #[.bool n1, .slice a la.length ca, .slice b lb.length cb], .agg #[.bool n2, .slice c lc.length cc, .slice d ld.length cd], .agg #[.bool n3, .slice f lf.length cf, .slice h lh.length ch]] w fun e w' => e = .returned (.bool true) ∧ Keep w w' := by
  obtain ⟨W, hW, B1, B2, B3, kW, -⟩ := lay3 w (.bool n1) (.slice a la.length ca) (.slice b lb.length cb) (.bool n2) (.slice c lc.length cc) (.slice d ld.length cd) (.bool n3) (.slice f lf.length cf) (.slice h lh.length ch)
  obtain ⟨K, hK⟩ : ∃ K, K = 2097152 := ⟨_, rfl⟩
  go_enter Tryd.func11, Tryd.ntmps11
  go_wp2_with fail
  rw [← hW]
  clear hW
  refine (lives_any W).mono ?_
  rintro e v0 ⟨rfl, j0⟩
  have kv0 := kW.trans j0
  have B1 := B1.keep j0
  have B2 := B2.keep j0
  have B3 := B3.keep j0
  obtain ⟨x0, x1, x2⟩ := B1.cells
  obtain ⟨x3, x4, x5⟩ := B2.cells
  obtain ⟨x6, x7, x8⟩ := B3.cells
  go_wp2_with fail
  have HRX : Hid (RE (val lb) = 0) := by show _ = _; simp [RE, h0]
  have cX := Over_form n1 a b ca cb la lb v0 hA.hca hA.hcb (by have := hA.hla; omega) (by have := hA.hlb; omega) (hA.hra.keep kv0) (hA.hrb.keep kv0) hA.hma hA.hmb
  obtain ⟨sX, hsX⟩ : ∃ s, RS n1 (val la) (val lb) = s := ⟨_, rfl⟩
  have HSX : Hid (RS n1 (val la) (val lb) = sX) := hsX
  clear hsX
  refine cX.mono ?_
  rintro e u1 ⟨anX, cnX, lnX, adX, cdX, ldX, rfl, hcX, hdX, rnX, rdX, mnX, mdX, pnX, pdX, enX, edX, l1⟩
  rw [HSX.out, HRX.out]
  have lx1 : Keep u1 (u1.alloc (Obj.cells #[Value.bool sX, Value.slice anX lnX.length cnX, Value.slice adX ldX.length cdX] 47)) := (Keep.refl u1).alloc _
  have AX := Box.new u1 (.bool sX) (.slice anX lnX.length cnX) (.slice adX ldX.length cdX)
  have ll1 := l1.trans lx1
  replace enX : Hid (val lnX = RN (val la) (val lb)) := enX
  replace edX : Hid (val ldX = RD (val la) (val lb)) := edX
  clear cX
  clear x0 x1 x2 x3 x4 x5 x6 x7 x8
  have B1 := B1.keep ll1
  have B2 := B2.keep ll1
  have B3 := B3.keep ll1
  have rnX := rnX.keep lx1
  have rdX := rdX.keep lx1
  have kk1 := kv0.trans ll1
  obtain ⟨x0, x1, x2⟩ := B1.cells
  obtain ⟨x3, x4, x5⟩ := B2.cells
  obtain ⟨x6, x7, x8⟩ := B3.cells
  obtain ⟨zX0, zX1, zX2⟩ := AX.cells
  go_wp2_with fail
  generalize u1.alloc _ = U1 at lx1 ll1 kk1 x0 x1 x2 x3 x4 x5 x6 x7 x8 zX0 zX1 zX2 B1 B2 B3 AX rnX rdX ⊢
  have znX : lnX.length ≤ 1048576 := Nat.le_trans (rat_len pnX enX.out (RN_le _ _) (val_lt hA.hma)) (by omega)
  have zdX : ldX.length ≤ 1048576 := Nat.le_trans (rat_len pdX edX.out (RD_le _ _) (val_lt hA.hmb)) (by omega)
  have HRY : Hid (RE (val ld) = 0) := by show _ = _; simp [RE, h1]
  have cY := Over_form n2 c d cc cd lc ld U1 hB.hca hB.hcb (by have := hB.hla; omega) (by have := hB.hlb; omega) (hB.hra.keep kk1) (hB.hrb.keep kk1) hB.hma hB.hmb
  obtain ⟨sY, hsY⟩ : ∃ s, RS n2 (val lc) (val ld) = s := ⟨_, rfl⟩
  have HSY : Hid (RS n2 (val lc) (val ld) = sY) := hsY
  clear hsY
  refine cY.mono ?_
  rintro e u2 ⟨anY, cnY, lnY, adY, cdY, ldY, rfl, hcY, hdY, rnY, rdY, mnY, mdY, pnY, pdY, enY, edY, l2⟩
  rw [HSY.out, HRY.out]
  have lx2 : Keep u2 (u2.alloc (Obj.cells #[Value.bool sY, Value.slice anY lnY.length cnY, Value.slice adY ldY.length cdY] 47)) := (Keep.refl u2).alloc _
  have AY := Box.new u2 (.bool sY) (.slice anY lnY.length cnY) (.slice adY ldY.length cdY)
  have ll2 := l2.trans lx2
  replace enY : Hid (val lnY = RN (val lc) (val ld)) := enY
  replace edY : Hid (val ldY = RD (val lc) (val ld)) := edY
  clear cY
  clear x0 x1 x2 x3 x4 x5 x6 x7 x8 zX0 zX1 zX2
  have B1 := B1.keep ll2
  have B2 := B2.keep ll2
  have B3 := B3.keep ll2
  have AX := AX.keep ll2
  have rnX := rnX.keep ll2
  have rdX := rdX.keep ll2
  have rnY := rnY.keep lx2
  have rdY := rdY.keep lx2
  have kk2 := kk1.trans ll2
  obtain ⟨x0, x1, x2⟩ := B1.cells
  obtain ⟨x3, x4, x5⟩ := B2.cells
  obtain ⟨x6, x7, x8⟩ := B3.cells
  obtain ⟨zX0, zX1, zX2⟩ := AX.cells
  obtain ⟨zY0, zY1, zY2⟩ := AY.cells
  go_wp2_with fail
  generalize u2.alloc _ = U2 at lx2 ll2 kk2 x0 x1 x2 x3 x4 x5 x6 x7 x8 zX0 zX1 zX2 zY0 zY1 zY2 B1 B2 B3 AX AY rnX rdX rnY rdY ⊢
  have znY : lnY.length ≤ 1048576 := Nat.le_trans (rat_len pnY enY.out (RN_le _ _) (val_lt hB.hma)) (by omega)
  have zdY : ldY.length ≤ 1048576 := Nat.le_trans (rat_len pdY edY.out (RD_le _ _) (val_lt hB.hmb)) (by omega)
  have HRZ : Hid (RE (val lh) = 11) := by show _ = _; simp [RE, h2]
  have cZ := Over_form n3 f h cf ch lf lh U2 hC.hca hC.hcb (by have := hC.hla; omega) (by have := hC.hlb; omega) (hC.hra.keep kk2) (hC.hrb.keep kk2) hC.hma hC.hmb
  obtain ⟨sZ, hsZ⟩ : ∃ s, RS n3 (val lf) (val lh) = s := ⟨_, rfl⟩
  have HSZ : Hid (RS n3 (val lf) (val lh) = sZ) := hsZ
  clear hsZ
  refine cZ.mono ?_
  rintro e u3 ⟨anZ, cnZ, lnZ, adZ, cdZ, ldZ, rfl, hcZ, hdZ, rnZ, rdZ, mnZ, mdZ, pnZ, pdZ, enZ, edZ, l3⟩
  rw [HSZ.out, HRZ.out]
  have lx3 : Keep u3 (u3.alloc (Obj.cells #[Value.bool sZ, Value.slice anZ lnZ.length cnZ, Value.slice adZ ldZ.length cdZ] 47)) := (Keep.refl u3).alloc _
  have AZ := Box.new u3 (.bool sZ) (.slice anZ lnZ.length cnZ) (.slice adZ ldZ.length cdZ)
  have ll3 := l3.trans lx3
  replace enZ : Hid (val lnZ = RN (val lf) (val lh)) := enZ
  replace edZ : Hid (val ldZ = RD (val lf) (val lh)) := edZ
  clear cZ
  clear x0 x1 x2 x3 x4 x5 x6 x7 x8 zX0 zX1 zX2 zY0 zY1 zY2
  have B1 := B1.keep ll3
  have B2 := B2.keep ll3
  have B3 := B3.keep ll3
  have AX := AX.keep ll3
  have AY := AY.keep ll3
  have rnX := rnX.keep ll3
  have rdX := rdX.keep ll3
  have rnY := rnY.keep ll3
  have rdY := rdY.keep ll3
  have rnZ := rnZ.keep lx3
  have rdZ := rdZ.keep lx3
  have kk3 := kk2.trans ll3
  obtain ⟨x0, x1, x2⟩ := B1.cells
  obtain ⟨x3, x4, x5⟩ := B2.cells
  obtain ⟨x6, x7, x8⟩ := B3.cells
  obtain ⟨zX0, zX1, zX2⟩ := AX.cells
  obtain ⟨zY0, zY1, zY2⟩ := AY.cells
  obtain ⟨zZ0, zZ1, zZ2⟩ := AZ.cells
  go_wp2_with fail
  generalize u3.alloc _ = U3 at lx3 ll3 kk3 x0 x1 x2 x3 x4 x5 x6 x7 x8 zX0 zX1 zX2 zY0 zY1 zY2 zZ0 zZ1 zZ2 B1 B2 B3 AX AY AZ rnX rdX rnY rdY rnZ rdZ ⊢
  have znZ : lnZ.length ≤ 1048576 := Nat.le_trans (rat_len pnZ enZ.out (RN_le _ _) (val_lt hC.hma)) (by omega)
  have zdZ : ldZ.length ≤ 1048576 := Nat.le_trans (rat_len pdZ edZ.out (RD_le _ _) (val_lt hC.hmb)) (by omega)
  have cN4 := Len_any b cb lb U3 hA.hcb (by have := hA.hlb; omega) (hA.hrb.keep kk3) hA.hmb
  have wn4 : lenB lb ≠ 0 := fun e => h0 ((lenB_nought hA.hmb).1 e)
  generalize lenB lb = M4 at cN4 wn4
  have gn4 : ((M4 : Int) == 0) = false := by simp; omega
  refine cN4.mono ?_
  rintro e u4 ⟨rfl, dr4⟩
  have l4 := dr4.keep
  clear cN4
  clear x0 x1 x2 x3 x4 x5 x6 x7 x8 zX0 zX1 zX2 zY0 zY1 zY2 zZ0 zZ1 zZ2
  have B1 := B1.keep l4
  have B2 := B2.keep l4
  have B3 := B3.keep l4
  have AX := AX.keep l4
  have AY := AY.keep l4
  have AZ := AZ.keep l4
  have rnX := rnX.keep l4
  have rdX := rdX.keep l4
  have rnY := rnY.keep l4
  have rdY := rdY.keep l4
  have rnZ := rnZ.keep l4
  have rdZ := rdZ.keep l4
  have kk4 := kk3.trans l4
  obtain ⟨x0, x1, x2⟩ := B1.cells
  obtain ⟨x3, x4, x5⟩ := B2.cells
  obtain ⟨x6, x7, x8⟩ := B3.cells
  obtain ⟨zX0, zX1, zX2⟩ := AX.cells
  obtain ⟨zY0, zY1, zY2⟩ := AY.cells
  obtain ⟨zZ0, zZ1, zZ2⟩ := AZ.cells
  go_wp2_with fail
  have cN5 := Len_any d cd ld u4 hB.hcb (by have := hB.hlb; omega) (hB.hrb.keep kk4) hB.hmb
  have wn5 : lenB ld ≠ 0 := fun e => h1 ((lenB_nought hB.hmb).1 e)
  generalize lenB ld = M5 at cN5 wn5
  have gn5 : ((M5 : Int) == 0) = false := by simp; omega
  refine cN5.mono ?_
  rintro e u5 ⟨rfl, dr5⟩
  have l5 := dr5.keep
  clear cN5
  clear x0 x1 x2 x3 x4 x5 x6 x7 x8 zX0 zX1 zX2 zY0 zY1 zY2 zZ0 zZ1 zZ2
  have B1 := B1.keep l5
  have B2 := B2.keep l5
  have B3 := B3.keep l5
  have AX := AX.keep l5
  have AY := AY.keep l5
  have AZ := AZ.keep l5
  have rnX := rnX.keep l5
  have rdX := rdX.keep l5
  have rnY := rnY.keep l5
  have rdY := rdY.keep l5
  have rnZ := rnZ.keep l5
  have rdZ := rdZ.keep l5
  have kk5 := kk4.trans l5
  obtain ⟨x0, x1, x2⟩ := B1.cells
  obtain ⟨x3, x4, x5⟩ := B2.cells
  obtain ⟨x6, x7, x8⟩ := B3.cells
  obtain ⟨zX0, zX1, zX2⟩ := AX.cells
  obtain ⟨zY0, zY1, zY2⟩ := AY.cells
  obtain ⟨zZ0, zZ1, zZ2⟩ := AZ.cells
  go_wp2_with fail
  have cN6 := Len_any h ch lh u5 hC.hcb (by have := hC.hlb; omega) (hC.hrb.keep kk5) hC.hmb
  rw [(lenB_nought hC.hmb).2 h2] at cN6
  refine cN6.mono ?_
  rintro e u6 ⟨rfl, dr6⟩
  have l6 := dr6.keep
  clear cN6
  clear x0 x1 x2 x3 x4 x5 x6 x7 x8 zX0 zX1 zX2 zY0 zY1 zY2 zZ0 zZ1 zZ2
  have B1 := B1.keep l6
  have B2 := B2.keep l6
  have B3 := B3.keep l6
  have AX := AX.keep l6
  have AY := AY.keep l6
  have AZ := AZ.keep l6
  have rnX := rnX.keep l6
  have rdX := rdX.keep l6
  have rnY := rnY.keep l6
  have rdY := rdY.keep l6
  have rnZ := rnZ.keep l6
  have rdZ := rdZ.keep l6
  have kk6 := kk5.trans l6
  obtain ⟨x0, x1, x2⟩ := B1.cells
  obtain ⟨x3, x4, x5⟩ := B2.cells
  obtain ⟨x6, x7, x8⟩ := B3.cells
  obtain ⟨zX0, zX1, zX2⟩ := AX.cells
  obtain ⟨zY0, zY1, zY2⟩ := AY.cells
  obtain ⟨zZ0, zZ1, zZ2⟩ := AZ.cells
  go_wp2_with fail
  go_ret
  exact ⟨rfl, kk6⟩
set_option maxRecDepth 100000 in
set_option maxHeartbeats 6400000 in
theorem field_m0 (n1 n2 n3 : Bool) (a b c d f h : Option Addr) (ca cb cc cd cf ch : Nat) (la lb lc ld lf lh : List Nat) (w : World) (hA : Arg2 w a ca la b cb lb) (hB : Arg2 w c cc lc d cd ld) (hC : Arg2 w f cf lf h ch lh) (sa : la.length + lb.length + lc.length + ld.length + lf.length + lh.length ≤ 1048576) (h0 : val lb ≠ 0) (h1 : val ld ≠ 0) (h2 : val lh ≠ 0) (h3 : val lc = 0) :
    Calls Tryd.prog 11 #[.agg #[.bool n1, .slice a la.length ca, .slice b lb.length cb], .agg #[.bool n2, .slice c lc.length cc, .slice d ld.length cd], .agg #[.bool n3, .slice f lf.length cf, .slice h lh.length ch]] w fun e w' => e = .returned (.bool true) ∧ Keep w w' := by
  obtain ⟨W, hW, B1, B2, B3, kW, -⟩ := lay3 w (.bool n1) (.slice a la.length ca) (.slice b lb.length cb) (.bool n2) (.slice c lc.length cc) (.slice d ld.length cd) (.bool n3) (.slice f lf.length cf) (.slice h lh.length ch)
  obtain ⟨K, hK⟩ : ∃ K, K = 2097152 := ⟨_, rfl⟩
  go_enter Tryd.func11, Tryd.ntmps11
  go_wp2_with fail
  rw [← hW]
  clear hW
  refine (lives_any W).mono ?_
  rintro e v0 ⟨rfl, j0⟩
  have kv0 := kW.trans j0
  have B1 := B1.keep j0
  have B2 := B2.keep j0
  have B3 := B3.keep j0
  obtain ⟨x0, x1, x2⟩ := B1.cells
  obtain ⟨x3, x4, x5⟩ := B2.cells
  obtain ⟨x6, x7, x8⟩ := B3.cells
  go_wp2_with fail
  have HRX : Hid (RE (val lb) = 0) := by show _ = _; simp [RE, h0]
  have cX := Over_form n1 a b ca cb la lb v0 hA.hca hA.hcb (by have := hA.hla; omega) (by have := hA.hlb; omega) (hA.hra.keep kv0) (hA.hrb.keep kv0) hA.hma hA.hmb
  obtain ⟨sX, hsX⟩ : ∃ s, RS n1 (val la) (val lb) = s := ⟨_, rfl⟩
  have HSX : Hid (RS n1 (val la) (val lb) = sX) := hsX
  clear hsX
  refine cX.mono ?_
  rintro e u1 ⟨anX, cnX, lnX, adX, cdX, ldX, rfl, hcX, hdX, rnX, rdX, mnX, mdX, pnX, pdX, enX, edX, l1⟩
  rw [HSX.out, HRX.out]
  have lx1 : Keep u1 (u1.alloc (Obj.cells #[Value.bool sX, Value.slice anX lnX.length cnX, Value.slice adX ldX.length cdX] 47)) := (Keep.refl u1).alloc _
  have AX := Box.new u1 (.bool sX) (.slice anX lnX.length cnX) (.slice adX ldX.length cdX)
  have ll1 := l1.trans lx1
  replace enX : Hid (val lnX = RN (val la) (val lb)) := enX
  replace edX : Hid (val ldX = RD (val la) (val lb)) := edX
  clear cX
  clear x0 x1 x2 x3 x4 x5 x6 x7 x8
  have B1 := B1.keep ll1
  have B2 := B2.keep ll1
  have B3 := B3.keep ll1
  have rnX := rnX.keep lx1
  have rdX := rdX.keep lx1
  have kk1 := kv0.trans ll1
  obtain ⟨x0, x1, x2⟩ := B1.cells
  obtain ⟨x3, x4, x5⟩ := B2.cells
  obtain ⟨x6, x7, x8⟩ := B3.cells
  obtain ⟨zX0, zX1, zX2⟩ := AX.cells
  go_wp2_with fail
  generalize u1.alloc _ = U1 at lx1 ll1 kk1 x0 x1 x2 x3 x4 x5 x6 x7 x8 zX0 zX1 zX2 B1 B2 B3 AX rnX rdX ⊢
  have znX : lnX.length ≤ 1048576 := Nat.le_trans (rat_len pnX enX.out (RN_le _ _) (val_lt hA.hma)) (by omega)
  have zdX : ldX.length ≤ 1048576 := Nat.le_trans (rat_len pdX edX.out (RD_le _ _) (val_lt hA.hmb)) (by omega)
  have ndX : val ldX ≠ 0 := by rw [edX.out]; exact RD_pos h0
  have HRY : Hid (RE (val ld) = 0) := by show _ = _; simp [RE, h1]
  have cY := Over_form n2 c d cc cd lc ld U1 hB.hca hB.hcb (by have := hB.hla; omega) (by have := hB.hlb; omega) (hB.hra.keep kk1) (hB.hrb.keep kk1) hB.hma hB.hmb
  obtain ⟨sY, hsY⟩ : ∃ s, RS n2 (val lc) (val ld) = s := ⟨_, rfl⟩
  have HSY : Hid (RS n2 (val lc) (val ld) = sY) := hsY
  clear hsY
  refine cY.mono ?_
  rintro e u2 ⟨anY, cnY, lnY, adY, cdY, ldY, rfl, hcY, hdY, rnY, rdY, mnY, mdY, pnY, pdY, enY, edY, l2⟩
  rw [HSY.out, HRY.out]
  have lx2 : Keep u2 (u2.alloc (Obj.cells #[Value.bool sY, Value.slice anY lnY.length cnY, Value.slice adY ldY.length cdY] 47)) := (Keep.refl u2).alloc _
  have AY := Box.new u2 (.bool sY) (.slice anY lnY.length cnY) (.slice adY ldY.length cdY)
  have ll2 := l2.trans lx2
  replace enY : Hid (val lnY = RN (val lc) (val ld)) := enY
  replace edY : Hid (val ldY = RD (val lc) (val ld)) := edY
  clear cY
  clear x0 x1 x2 x3 x4 x5 x6 x7 x8 zX0 zX1 zX2
  have B1 := B1.keep ll2
  have B2 := B2.keep ll2
  have B3 := B3.keep ll2
  have AX := AX.keep ll2
  have rnX := rnX.keep ll2
  have rdX := rdX.keep ll2
  have rnY := rnY.keep lx2
  have rdY := rdY.keep lx2
  have kk2 := kk1.trans ll2
  obtain ⟨x0, x1, x2⟩ := B1.cells
  obtain ⟨x3, x4, x5⟩ := B2.cells
  obtain ⟨x6, x7, x8⟩ := B3.cells
  obtain ⟨zX0, zX1, zX2⟩ := AX.cells
  obtain ⟨zY0, zY1, zY2⟩ := AY.cells
  go_wp2_with fail
  generalize u2.alloc _ = U2 at lx2 ll2 kk2 x0 x1 x2 x3 x4 x5 x6 x7 x8 zX0 zX1 zX2 zY0 zY1 zY2 B1 B2 B3 AX AY rnX rdX rnY rdY ⊢
  have znY : lnY.length ≤ 1048576 := Nat.le_trans (rat_len pnY enY.out (RN_le _ _) (val_lt hB.hma)) (by omega)
  have zdY : ldY.length ≤ 1048576 := Nat.le_trans (rat_len pdY edY.out (RD_le _ _) (val_lt hB.hmb)) (by omega)
  have ndY : val ldY ≠ 0 := by rw [edY.out]; exact RD_pos h1
  have HRZ : Hid (RE (val lh) = 0) := by show _ = _; simp [RE, h2]
  have cZ := Over_form n3 f h cf ch lf lh U2 hC.hca hC.hcb (by have := hC.hla; omega) (by have := hC.hlb; omega) (hC.hra.keep kk2) (hC.hrb.keep kk2) hC.hma hC.hmb
  obtain ⟨sZ, hsZ⟩ : ∃ s, RS n3 (val lf) (val lh) = s := ⟨_, rfl⟩
  have HSZ : Hid (RS n3 (val lf) (val lh) = sZ) := hsZ
  clear hsZ
  refine cZ.mono ?_
  rintro e u3 ⟨anZ, cnZ, lnZ, adZ, cdZ, ldZ, rfl, hcZ, hdZ, rnZ, rdZ, mnZ, mdZ, pnZ, pdZ, enZ, edZ, l3⟩
  rw [HSZ.out, HRZ.out]
  have lx3 : Keep u3 (u3.alloc (Obj.cells #[Value.bool sZ, Value.slice anZ lnZ.length cnZ, Value.slice adZ ldZ.length cdZ] 47)) := (Keep.refl u3).alloc _
  have AZ := Box.new u3 (.bool sZ) (.slice anZ lnZ.length cnZ) (.slice adZ ldZ.length cdZ)
  have ll3 := l3.trans lx3
  replace enZ : Hid (val lnZ = RN (val lf) (val lh)) := enZ
  replace edZ : Hid (val ldZ = RD (val lf) (val lh)) := edZ
  clear cZ
  clear x0 x1 x2 x3 x4 x5 x6 x7 x8 zX0 zX1 zX2 zY0 zY1 zY2
  have B1 := B1.keep ll3
  have B2 := B2.keep ll3
  have B3 := B3.keep ll3
  have AX := AX.keep ll3
  have AY := AY.keep ll3
  have rnX := rnX.keep ll3
  have rdX := rdX.keep ll3
  have rnY := rnY.keep ll3
  have rdY := rdY.keep ll3
  have rnZ := rnZ.keep lx3
  have rdZ := rdZ.keep lx3
  have kk3 := kk2.trans ll3
  obtain ⟨x0, x1, x2⟩ := B1.cells
  obtain ⟨x3, x4, x5⟩ := B2.cells
  obtain ⟨x6, x7, x8⟩ := B3.cells
  obtain ⟨zX0, zX1, zX2⟩ := AX.cells
  obtain ⟨zY0, zY1, zY2⟩ := AY.cells
  obtain ⟨zZ0, zZ1, zZ2⟩ := AZ.cells
  go_wp2_with fail
  generalize u3.alloc _ = U3 at lx3 ll3 kk3 x0 x1 x2 x3 x4 x5 x6 x7 x8 zX0 zX1 zX2 zY0 zY1 zY2 zZ0 zZ1 zZ2 B1 B2 B3 AX AY AZ rnX rdX rnY rdY rnZ rdZ ⊢
  have znZ : lnZ.length ≤ 1048576 := Nat.le_trans (rat_len pnZ enZ.out (RN_le _ _) (val_lt hC.hma)) (by omega)
  have zdZ : ldZ.length ≤ 1048576 := Nat.le_trans (rat_len pdZ edZ.out (RD_le _ _) (val_lt hC.hmb)) (by omega)
  have ndZ : val ldZ ≠ 0 := by rw [edZ.out]; exact RD_pos h2
  have nzV : (val ldY * val ldZ) ≠ 0 := Nat.mul_ne_zero ndY ndZ
  have HRV : Hid (RE ((val ldY * val ldZ)) = 0) := by show _ = _; unfold RE; rw [if_neg nzV]
  have cV := Plus_form sY sZ anY adY anZ adZ cnY cdY cnZ cdZ lnY ldY lnZ ldZ U3 ⟨hcY, hdY, by omega, by omega, rnY, rdY, mnY, mdY⟩ ⟨hcZ, hdZ, by omega, by omega, rnZ, rdZ, mnZ, mdZ⟩
  obtain ⟨sV, hsV⟩ : ∃ s, RS (PG sY sZ (val lnY * val ldZ) (val lnZ * val ldY)) (PN sY sZ (val lnY * val ldZ) (val lnZ * val ldY)) (val ldY * val ldZ) = s := ⟨_, rfl⟩
  have HSV : Hid (RS (PG sY sZ (val lnY * val ldZ) (val lnZ * val ldY)) (PN sY sZ (val lnY * val ldZ) (val lnZ * val ldY)) (val ldY * val ldZ) = sV) := hsV
  clear hsV
  refine cV.mono ?_
  rintro e u4 ⟨anV, cnV, lnV, adV, cdV, ldV, rfl, hcV, hdV, rnV, rdV, mnV, mdV, pnV, pdV, enV, edV, l4⟩
  rw [HSV.out, HRV.out]
  have lx4 : Keep u4 (u4.alloc (Obj.cells #[Value.bool sV, Value.slice anV lnV.length cnV, Value.slice adV ldV.length cdV] 47)) := (Keep.refl u4).alloc _
  have AV := Box.new u4 (.bool sV) (.slice anV lnV.length cnV) (.slice adV ldV.length cdV)
  have ll4 := l4.trans lx4
  replace enV : Hid (val lnV = RN (PN sY sZ (val lnY * val ldZ) (val lnZ * val ldY)) (val ldY * val ldZ)) := enV
  replace edV : Hid (val ldV = RD (PN sY sZ (val lnY * val ldZ) (val lnZ * val ldY)) (val ldY * val ldZ)) := edV
  clear cV
  clear x0 x1 x2 x3 x4 x5 x6 x7 x8 zX0 zX1 zX2 zY0 zY1 zY2 zZ0 zZ1 zZ2
  have B1 := B1.keep ll4
  have B2 := B2.keep ll4
  have B3 := B3.keep ll4
  have AX := AX.keep ll4
  have AY := AY.keep ll4
  have AZ := AZ.keep ll4
  have rnX := rnX.keep ll4
  have rdX := rdX.keep ll4
  have rnY := rnY.keep ll4
  have rdY := rdY.keep ll4
  have rnZ := rnZ.keep ll4
  have rdZ := rdZ.keep ll4
  have rnV := rnV.keep lx4
  have rdV := rdV.keep lx4
  have kk4 := kk3.trans ll4
  obtain ⟨x0, x1, x2⟩ := B1.cells
  obtain ⟨x3, x4, x5⟩ := B2.cells
  obtain ⟨x6, x7, x8⟩ := B3.cells
  obtain ⟨zX0, zX1, zX2⟩ := AX.cells
  obtain ⟨zY0, zY1, zY2⟩ := AY.cells
  obtain ⟨zZ0, zZ1, zZ2⟩ := AZ.cells
  obtain ⟨zV0, zV1, zV2⟩ := AV.cells
  go_wp2_with fail
  generalize u4.alloc _ = U4 at lx4 ll4 kk4 x0 x1 x2 x3 x4 x5 x6 x7 x8 zX0 zX1 zX2 zY0 zY1 zY2 zZ0 zZ1 zZ2 zV0 zV1 zV2 B1 B2 B3 AX AY AZ AV rnX rdX rnY rdY rnZ rdZ rnV rdV ⊢
  have znV : lnV.length ≤ K + 1 := Nat.le_trans (rat_len pnV enV.out (RN_le _ _) (Nat.lt_of_le_of_lt (PN_le _ _ _ _) (two_lt (prod_lt mnY mdZ K (by omega)) (prod_lt mnZ mdY K (by omega))))) (by omega)
  have zdV : ldV.length ≤ K + 1 := Nat.le_trans (rat_len pdV edV.out (RD_le _ _) (prod_lt mdY mdZ K (by omega))) (by omega)
  have ndV : val ldV ≠ 0 := by rw [edV.out]; exact RD_pos nzV
  have nzLf : (val ldX * val ldV) ≠ 0 := Nat.mul_ne_zero ndX ndV
  have HRLf : Hid (RE ((val ldX * val ldV)) = 0) := by show _ = _; unfold RE; rw [if_neg nzLf]
  have cLf := Times_form sX sV anX adX anV adV cnX cdX cnV cdV lnX ldX lnV ldV U4 ⟨hcX, hdX, by omega, by omega, rnX, rdX, mnX, mdX⟩ ⟨hcV, hdV, by omega, by omega, rnV, rdV, mnV, mdV⟩
  obtain ⟨sLf, hsLf⟩ : ∃ s, RS (sX != sV) (val lnX * val lnV) (val ldX * val ldV) = s := ⟨_, rfl⟩
  have HSLf : Hid (RS (sX != sV) (val lnX * val lnV) (val ldX * val ldV) = sLf) := hsLf
  clear hsLf
  refine cLf.mono ?_
  rintro e u5 ⟨anLf, cnLf, lnLf, adLf, cdLf, ldLf, rfl, hcLf, hdLf, rnLf, rdLf, mnLf, mdLf, pnLf, pdLf, enLf, edLf, l5⟩
  rw [HSLf.out, HRLf.out]
  have lx5 : Keep u5 (u5.alloc (Obj.cells #[Value.bool sLf, Value.slice anLf lnLf.length cnLf, Value.slice adLf ldLf.length cdLf] 47)) := (Keep.refl u5).alloc _
  have ALf := Box.new u5 (.bool sLf) (.slice anLf lnLf.length cnLf) (.slice adLf ldLf.length cdLf)
  have ll5 := l5.trans lx5
  replace enLf : Hid (val lnLf = RN (val lnX * val lnV) (val ldX * val ldV)) := enLf
  replace edLf : Hid (val ldLf = RD (val lnX * val lnV) (val ldX * val ldV)) := edLf
  clear cLf
  clear x0 x1 x2 x3 x4 x5 x6 x7 x8 zX0 zX1 zX2 zY0 zY1 zY2 zZ0 zZ1 zZ2 zV0 zV1 zV2
  have B1 := B1.keep ll5
  have B2 := B2.keep ll5
  have B3 := B3.keep ll5
  have AX := AX.keep ll5
  have AY := AY.keep ll5
  have AZ := AZ.keep ll5
  have AV := AV.keep ll5
  have rnX := rnX.keep ll5
  have rdX := rdX.keep ll5
  have rnY := rnY.keep ll5
  have rdY := rdY.keep ll5
  have rnZ := rnZ.keep ll5
  have rdZ := rdZ.keep ll5
  have rnV := rnV.keep ll5
  have rdV := rdV.keep ll5
  have rnLf := rnLf.keep lx5
  have rdLf := rdLf.keep lx5
  have kk5 := kk4.trans ll5
  obtain ⟨x0, x1, x2⟩ := B1.cells
  obtain ⟨x3, x4, x5⟩ := B2.cells
  obtain ⟨x6, x7, x8⟩ := B3.cells
  obtain ⟨zX0, zX1, zX2⟩ := AX.cells
  obtain ⟨zY0, zY1, zY2⟩ := AY.cells
  obtain ⟨zZ0, zZ1, zZ2⟩ := AZ.cells
  obtain ⟨zV0, zV1, zV2⟩ := AV.cells
  obtain ⟨zLf0, zLf1, zLf2⟩ := ALf.cells
  go_wp2_with fail
  generalize u5.alloc _ = U5 at lx5 ll5 kk5 x0 x1 x2 x3 x4 x5 x6 x7 x8 zX0 zX1 zX2 zY0 zY1 zY2 zZ0 zZ1 zZ2 zV0 zV1 zV2 zLf0 zLf1 zLf2 B1 B2 B3 AX AY AZ AV ALf rnX rdX rnY rdY rnZ rdZ rnV rdV rnLf rdLf ⊢
  have znLf : lnLf.length ≤ (4 * K) + 1 := Nat.le_trans (rat_len pnLf enLf.out (RN_le _ _) (prod_lt mnX mnV (4 * K) (by omega))) (by omega)
  have zdLf : ldLf.length ≤ (4 * K) + 1 := Nat.le_trans (rat_len pdLf edLf.out (RD_le _ _) (prod_lt mdX mdV (4 * K) (by omega))) (by omega)
  have ndLf : val ldLf ≠ 0 := by rw [edLf.out]; exact RD_pos nzLf
  have nzA : (val ldX * val ldY) ≠ 0 := Nat.mul_ne_zero ndX ndY
  have HRA : Hid (RE ((val ldX * val ldY)) = 0) := by show _ = _; unfold RE; rw [if_neg nzA]
  have cA := Times_form sX sY anX adX anY adY cnX cdX cnY cdY lnX ldX lnY ldY U5 ⟨hcX, hdX, by omega, by omega, rnX, rdX, mnX, mdX⟩ ⟨hcY, hdY, by omega, by omega, rnY, rdY, mnY, mdY⟩
  obtain ⟨sA, hsA⟩ : ∃ s, RS (sX != sY) (val lnX * val lnY) (val ldX * val ldY) = s := ⟨_, rfl⟩
  have HSA : Hid (RS (sX != sY) (val lnX * val lnY) (val ldX * val ldY) = sA) := hsA
  clear hsA
  refine cA.mono ?_
  rintro e u6 ⟨anA, cnA, lnA, adA, cdA, ldA, rfl, hcA, hdA, rnA, rdA, mnA, mdA, pnA, pdA, enA, edA, l6⟩
  rw [HSA.out, HRA.out]
  have lx6 : Keep u6 (u6.alloc (Obj.cells #[Value.bool sA, Value.slice anA lnA.length cnA, Value.slice adA ldA.length cdA] 47)) := (Keep.refl u6).alloc _
  have AA := Box.new u6 (.bool sA) (.slice anA lnA.length cnA) (.slice adA ldA.length cdA)
  have ll6 := l6.trans lx6
  replace enA : Hid (val lnA = RN (val lnX * val lnY) (val ldX * val ldY)) := enA
  replace edA : Hid (val ldA = RD (val lnX * val lnY) (val ldX * val ldY)) := edA
  clear cA
  clear x0 x1 x2 x3 x4 x5 x6 x7 x8 zX0 zX1 zX2 zY0 zY1 zY2 zZ0 zZ1 zZ2 zV0 zV1 zV2 zLf0 zLf1 zLf2
  have B1 := B1.keep ll6
  have B2 := B2.keep ll6
  have B3 := B3.keep ll6
  have AX := AX.keep ll6
  have AY := AY.keep ll6
  have AZ := AZ.keep ll6
  have AV := AV.keep ll6
  have ALf := ALf.keep ll6
  have rnX := rnX.keep ll6
  have rdX := rdX.keep ll6
  have rnY := rnY.keep ll6
  have rdY := rdY.keep ll6
  have rnZ := rnZ.keep ll6
  have rdZ := rdZ.keep ll6
  have rnV := rnV.keep ll6
  have rdV := rdV.keep ll6
  have rnLf := rnLf.keep ll6
  have rdLf := rdLf.keep ll6
  have rnA := rnA.keep lx6
  have rdA := rdA.keep lx6
  have kk6 := kk5.trans ll6
  obtain ⟨x0, x1, x2⟩ := B1.cells
  obtain ⟨x3, x4, x5⟩ := B2.cells
  obtain ⟨x6, x7, x8⟩ := B3.cells
  obtain ⟨zX0, zX1, zX2⟩ := AX.cells
  obtain ⟨zY0, zY1, zY2⟩ := AY.cells
  obtain ⟨zZ0, zZ1, zZ2⟩ := AZ.cells
  obtain ⟨zV0, zV1, zV2⟩ := AV.cells
  obtain ⟨zLf0, zLf1, zLf2⟩ := ALf.cells
  obtain ⟨zA0, zA1, zA2⟩ := AA.cells
  go_wp2_with fail
  generalize u6.alloc _ = U6 at lx6 ll6 kk6 x0 x1 x2 x3 x4 x5 x6 x7 x8 zX0 zX1 zX2 zY0 zY1 zY2 zZ0 zZ1 zZ2 zV0 zV1 zV2 zLf0 zLf1 zLf2 zA0 zA1 zA2 B1 B2 B3 AX AY AZ AV ALf AA rnX rdX rnY rdY rnZ rdZ rnV rdV rnLf rdLf rnA rdA ⊢
  have znA : lnA.length ≤ K + 1 := Nat.le_trans (rat_len pnA enA.out (RN_le _ _) (prod_lt mnX mnY K (by omega))) (by omega)
  have zdA : ldA.length ≤ K + 1 := Nat.le_trans (rat_len pdA edA.out (RD_le _ _) (prod_lt mdX mdY K (by omega))) (by omega)
  have ndA : val ldA ≠ 0 := by rw [edA.out]; exact RD_pos nzA
  have nzB : (val ldX * val ldZ) ≠ 0 := Nat.mul_ne_zero ndX ndZ
  have HRB : Hid (RE ((val ldX * val ldZ)) = 0) := by show _ = _; unfold RE; rw [if_neg nzB]
  have cB := Times_form sX sZ anX adX anZ adZ cnX cdX cnZ cdZ lnX ldX lnZ ldZ U6 ⟨hcX, hdX, by omega, by omega, rnX, rdX, mnX, mdX⟩ ⟨hcZ, hdZ, by omega, by omega, rnZ, rdZ, mnZ, mdZ⟩
  obtain ⟨sB, hsB⟩ : ∃ s, RS (sX != sZ) (val lnX * val lnZ) (val ldX * val ldZ) = s := ⟨_, rfl⟩
  have HSB : Hid (RS (sX != sZ) (val lnX * val lnZ) (val ldX * val ldZ) = sB) := hsB
  clear hsB
  refine cB.mono ?_
  rintro e u7 ⟨anB, cnB, lnB, adB, cdB, ldB, rfl, hcB, hdB, rnB, rdB, mnB, mdB, pnB, pdB, enB, edB, l7⟩
  rw [HSB.out, HRB.out]
  have lx7 : Keep u7 (u7.alloc (Obj.cells #[Value.bool sB, Value.slice anB lnB.length cnB, Value.slice adB ldB.length cdB] 47)) := (Keep.refl u7).alloc _
  have AB := Box.new u7 (.bool sB) (.slice anB lnB.length cnB) (.slice adB ldB.length cdB)
  have ll7 := l7.trans lx7
  replace enB : Hid (val lnB = RN (val lnX * val lnZ) (val ldX * val ldZ)) := enB
  replace edB : Hid (val ldB = RD (val lnX * val lnZ) (val ldX * val ldZ)) := edB
  clear cB
  clear x0 x1 x2 x3 x4 x5 x6 x7 x8 zX0 zX1 zX2 zY0 zY1 zY2 zZ0 zZ1 zZ2 zV0 zV1 zV2 zLf0 zLf1 zLf2 zA0 zA1 zA2
  have B1 := B1.keep ll7
  have B2 := B2.keep ll7
  have B3 := B3.keep ll7
  have AX := AX.keep ll7
  have AY := AY.keep ll7
  have AZ := AZ.keep ll7
  have AV := AV.keep ll7
  have ALf := ALf.keep ll7
  have AA := AA.keep ll7
  have rnX := rnX.keep ll7
  have rdX := rdX.keep ll7
  have rnY := rnY.keep ll7
  have rdY := rdY.keep ll7
  have rnZ := rnZ.keep ll7
  have rdZ := rdZ.keep ll7
  have rnV := rnV.keep ll7
  have rdV := rdV.keep ll7
  have rnLf := rnLf.keep ll7
  have rdLf := rdLf.keep ll7
  have rnA := rnA.keep ll7
  have rdA := rdA.keep ll7
  have rnB := rnB.keep lx7
  have rdB := rdB.keep lx7
  have kk7 := kk6.trans ll7
  obtain ⟨x0, x1, x2⟩ := B1.cells
  obtain ⟨x3, x4, x5⟩ := B2.cells
  obtain ⟨x6, x7, x8⟩ := B3.cells
  obtain ⟨zX0, zX1, zX2⟩ := AX.cells
  obtain ⟨zY0, zY1, zY2⟩ := AY.cells
  obtain ⟨zZ0, zZ1, zZ2⟩ := AZ.cells
  obtain ⟨zV0, zV1, zV2⟩ := AV.cells
  obtain ⟨zLf0, zLf1, zLf2⟩ := ALf.cells
  obtain ⟨zA0, zA1, zA2⟩ := AA.cells
  obtain ⟨zB0, zB1, zB2⟩ := AB.cells
  go_wp2_with fail
  generalize u7.alloc _ = U7 at lx7 ll7 kk7 x0 x1 x2 x3 x4 x5 x6 x7 x8 zX0 zX1 zX2 zY0 zY1 zY2 zZ0 zZ1 zZ2 zV0 zV1 zV2 zLf0 zLf1 zLf2 zA0 zA1 zA2 zB0 zB1 zB2 B1 B2 B3 AX AY AZ AV ALf AA AB rnX rdX rnY rdY rnZ rdZ rnV rdV rnLf rdLf rnA rdA rnB rdB ⊢
  have znB : lnB.length ≤ K + 1 := Nat.le_trans (rat_len pnB enB.out (RN_le _ _) (prod_lt mnX mnZ K (by omega))) (by omega)
  have zdB : ldB.length ≤ K + 1 := Nat.le_trans (rat_len pdB edB.out (RD_le _ _) (prod_lt mdX mdZ K (by omega))) (by omega)
  have ndB : val ldB ≠ 0 := by rw [edB.out]; exact RD_pos nzB
  have nzRt : (val ldA * val ldB) ≠ 0 := Nat.mul_ne_zero ndA ndB
  have HRRt : Hid (RE ((val ldA * val ldB)) = 0) := by show _ = _; unfold RE; rw [if_neg nzRt]
  have cRt := Plus_form sA sB anA adA anB adB cnA cdA cnB cdB lnA ldA lnB ldB U7 ⟨hcA, hdA, by omega, by omega, rnA, rdA, mnA, mdA⟩ ⟨hcB, hdB, by omega, by omega, rnB, rdB, mnB, mdB⟩
  obtain ⟨sRt, hsRt⟩ : ∃ s, RS (PG sA sB (val lnA * val ldB) (val lnB * val ldA)) (PN sA sB (val lnA * val ldB) (val lnB * val ldA)) (val ldA * val ldB) = s := ⟨_, rfl⟩
  have HSRt : Hid (RS (PG sA sB (val lnA * val ldB) (val lnB * val ldA)) (PN sA sB (val lnA * val ldB) (val lnB * val ldA)) (val ldA * val ldB) = sRt) := hsRt
  clear hsRt
  refine cRt.mono ?_
  rintro e u8 ⟨anRt, cnRt, lnRt, adRt, cdRt, ldRt, rfl, hcRt, hdRt, rnRt, rdRt, mnRt, mdRt, pnRt, pdRt, enRt, edRt, l8⟩
  rw [HSRt.out, HRRt.out]
  have lx8 : Keep u8 (u8.alloc (Obj.cells #[Value.bool sRt, Value.slice anRt lnRt.length cnRt, Value.slice adRt ldRt.length cdRt] 47)) := (Keep.refl u8).alloc _
  have ARt := Box.new u8 (.bool sRt) (.slice anRt lnRt.length cnRt) (.slice adRt ldRt.length cdRt)
  have ll8 := l8.trans lx8
  replace enRt : Hid (val lnRt = RN (PN sA sB (val lnA * val ldB) (val lnB * val ldA)) (val ldA * val ldB)) := enRt
  replace edRt : Hid (val ldRt = RD (PN sA sB (val lnA * val ldB) (val lnB * val ldA)) (val ldA * val ldB)) := edRt
  clear cRt
  clear x0 x1 x2 x3 x4 x5 x6 x7 x8 zX0 zX1 zX2 zY0 zY1 zY2 zZ0 zZ1 zZ2 zV0 zV1 zV2 zLf0 zLf1 zLf2 zA0 zA1 zA2 zB0 zB1 zB2
  have B1 := B1.keep ll8
  have B2 := B2.keep ll8
  have B3 := B3.keep ll8
  have AX := AX.keep ll8
  have AY := AY.keep ll8
  have AZ := AZ.keep ll8
  have AV := AV.keep ll8
  have ALf := ALf.keep ll8
  have AA := AA.keep ll8
  have AB := AB.keep ll8
  have rnX := rnX.keep ll8
  have rdX := rdX.keep ll8
  have rnY := rnY.keep ll8
  have rdY := rdY.keep ll8
  have rnZ := rnZ.keep ll8
  have rdZ := rdZ.keep ll8
  have rnV := rnV.keep ll8
  have rdV := rdV.keep ll8
  have rnLf := rnLf.keep ll8
  have rdLf := rdLf.keep ll8
  have rnA := rnA.keep ll8
  have rdA := rdA.keep ll8
  have rnB := rnB.keep ll8
  have rdB := rdB.keep ll8
  have rnRt := rnRt.keep lx8
  have rdRt := rdRt.keep lx8
  have kk8 := kk7.trans ll8
  obtain ⟨x0, x1, x2⟩ := B1.cells
  obtain ⟨x3, x4, x5⟩ := B2.cells
  obtain ⟨x6, x7, x8⟩ := B3.cells
  obtain ⟨zX0, zX1, zX2⟩ := AX.cells
  obtain ⟨zY0, zY1, zY2⟩ := AY.cells
  obtain ⟨zZ0, zZ1, zZ2⟩ := AZ.cells
  obtain ⟨zV0, zV1, zV2⟩ := AV.cells
  obtain ⟨zLf0, zLf1, zLf2⟩ := ALf.cells
  obtain ⟨zA0, zA1, zA2⟩ := AA.cells
  obtain ⟨zB0, zB1, zB2⟩ := AB.cells
  obtain ⟨zRt0, zRt1, zRt2⟩ := ARt.cells
  go_wp2_with fail
  generalize u8.alloc _ = U8 at lx8 ll8 kk8 x0 x1 x2 x3 x4 x5 x6 x7 x8 zX0 zX1 zX2 zY0 zY1 zY2 zZ0 zZ1 zZ2 zV0 zV1 zV2 zLf0 zLf1 zLf2 zA0 zA1 zA2 zB0 zB1 zB2 zRt0 zRt1 zRt2 B1 B2 B3 AX AY AZ AV ALf AA AB ARt rnX rdX rnY rdY rnZ rdZ rnV rdV rnLf rdLf rnA rdA rnB rdB rnRt rdRt ⊢
  have znRt : lnRt.length ≤ (4 * K) + 1 := Nat.le_trans (rat_len pnRt enRt.out (RN_le _ _) (Nat.lt_of_le_of_lt (PN_le _ _ _ _) (two_lt (prod_lt mnA mdB (4 * K) (by omega)) (prod_lt mnB mdA (4 * K) (by omega))))) (by omega)
  have zdRt : ldRt.length ≤ (4 * K) + 1 := Nat.le_trans (rat_len pdRt edRt.out (RD_le _ _) (prod_lt mdA mdB (4 * K) (by omega))) (by omega)
  have ndRt : val ldRt ≠ 0 := by rw [edRt.out]; exact RD_pos nzRt
  obtain ⟨t1, t2, t3⟩ := field_distr sX sY sZ (val lnX) (val ldX) (val lnY) (val ldY) (val lnZ) (val ldZ) ndX ndY ndZ sV sA sB (val lnV) (val ldV) (val lnA) (val ldA) (val lnB) (val ldB) HSV.out enV.out edV.out HSA.out enA.out edA.out HSB.out enB.out edB.out
  obtain rfl : lnRt = lnLf := val_inj mnRt mnLf pnRt pnLf (by rw [enRt.out, enLf.out, t2])
  obtain rfl : ldRt = ldLf := val_inj mdRt mdLf pdRt pdLf (by rw [edRt.out, edLf.out, t3])
  have hsg : sLf = sRt := by rw [← HSLf.out, ← HSRt.out]; exact t1
  subst hsg
  clear t1 t2 t3
  have hAl := Alike_same sLf anLf adLf anRt adRt cnLf cdLf cnRt cdRt lnRt ldRt U8 (by omega) (by omega) rnLf rdLf rnRt rdRt
  refine hAl.mono ?_
  rintro e u9 ⟨rfl, l9⟩
  clear hAl
  clear x0 x1 x2 x3 x4 x5 x6 x7 x8 zX0 zX1 zX2 zY0 zY1 zY2 zZ0 zZ1 zZ2 zV0 zV1 zV2 zLf0 zLf1 zLf2 zA0 zA1 zA2 zB0 zB1 zB2 zRt0 zRt1 zRt2
  have B1 := B1.keep l9
  have B2 := B2.keep l9
  have B3 := B3.keep l9
  have AX := AX.keep l9
  have AY := AY.keep l9
  have AZ := AZ.keep l9
  have AV := AV.keep l9
  have ALf := ALf.keep l9
  have AA := AA.keep l9
  have AB := AB.keep l9
  have ARt := ARt.keep l9
  have rnX := rnX.keep l9
  have rdX := rdX.keep l9
  have rnY := rnY.keep l9
  have rdY := rdY.keep l9
  have rnZ := rnZ.keep l9
  have rdZ := rdZ.keep l9
  have rnV := rnV.keep l9
  have rdV := rdV.keep l9
  have rnLf := rnLf.keep l9
  have rdLf := rdLf.keep l9
  have rnA := rnA.keep l9
  have rdA := rdA.keep l9
  have rnB := rnB.keep l9
  have rdB := rdB.keep l9
  have rnRt := rnRt.keep l9
  have rdRt := rdRt.keep l9
  have kk9 := kk8.trans l9
  obtain ⟨x0, x1, x2⟩ := B1.cells
  obtain ⟨x3, x4, x5⟩ := B2.cells
  obtain ⟨x6, x7, x8⟩ := B3.cells
  obtain ⟨zX0, zX1, zX2⟩ := AX.cells
  obtain ⟨zY0, zY1, zY2⟩ := AY.cells
  obtain ⟨zZ0, zZ1, zZ2⟩ := AZ.cells
  obtain ⟨zV0, zV1, zV2⟩ := AV.cells
  obtain ⟨zLf0, zLf1, zLf2⟩ := ALf.cells
  obtain ⟨zA0, zA1, zA2⟩ := AA.cells
  obtain ⟨zB0, zB1, zB2⟩ := AB.cells
  obtain ⟨zRt0, zRt1, zRt2⟩ := ARt.cells
  go_wp2_with fail
  clear ALf zLf0 zLf1 zLf2 ARt zRt0 zRt1 zRt2 AV zV0 zV1 zV2 AA zA0 zA1 zA2 AB zB0 zB1 zB2 AZ zZ0 zZ1 zZ2
  have nzS : (val ldX * val ldY) ≠ 0 := Nat.mul_ne_zero ndX ndY
  have HRS : Hid (RE ((val ldX * val ldY)) = 0) := by show _ = _; unfold RE; rw [if_neg nzS]
  have cS := Plus_form sX sY anX adX anY adY cnX cdX cnY cdY lnX ldX lnY ldY u9 ⟨hcX, hdX, by omega, by omega, rnX, rdX, mnX, mdX⟩ ⟨hcY, hdY, by omega, by omega, rnY, rdY, mnY, mdY⟩
  obtain ⟨sS, hsS⟩ : ∃ s, RS (PG sX sY (val lnX * val ldY) (val lnY * val ldX)) (PN sX sY (val lnX * val ldY) (val lnY * val ldX)) (val ldX * val ldY) = s := ⟨_, rfl⟩
  have HSS : Hid (RS (PG sX sY (val lnX * val ldY) (val lnY * val ldX)) (PN sX sY (val lnX * val ldY) (val lnY * val ldX)) (val ldX * val ldY) = sS) := hsS
  clear hsS
  refine cS.mono ?_
  rintro e u10 ⟨anS, cnS, lnS, adS, cdS, ldS, rfl, hcS, hdS, rnS, rdS, mnS, mdS, pnS, pdS, enS, edS, l10⟩
  rw [HSS.out, HRS.out]
  have lx10 : Keep u10 (u10.alloc (Obj.cells #[Value.bool sS, Value.slice anS lnS.length cnS, Value.slice adS ldS.length cdS] 47)) := (Keep.refl u10).alloc _
  have AS := Box.new u10 (.bool sS) (.slice anS lnS.length cnS) (.slice adS ldS.length cdS)
  have ll10 := l10.trans lx10
  replace enS : Hid (val lnS = RN (PN sX sY (val lnX * val ldY) (val lnY * val ldX)) (val ldX * val ldY)) := enS
  replace edS : Hid (val ldS = RD (PN sX sY (val lnX * val ldY) (val lnY * val ldX)) (val ldX * val ldY)) := edS
  clear cS
  clear x0 x1 x2 x3 x4 x5 x6 x7 x8 zX0 zX1 zX2 zY0 zY1 zY2
  have B1 := B1.keep ll10
  have B2 := B2.keep ll10
  have B3 := B3.keep ll10
  have AX := AX.keep ll10
  have AY := AY.keep ll10
  have rnX := rnX.keep ll10
  have rdX := rdX.keep ll10
  have rnY := rnY.keep ll10
  have rdY := rdY.keep ll10
  have rnS := rnS.keep lx10
  have rdS := rdS.keep lx10
  have kk10 := kk9.trans ll10
  obtain ⟨x0, x1, x2⟩ := B1.cells
  obtain ⟨x3, x4, x5⟩ := B2.cells
  obtain ⟨x6, x7, x8⟩ := B3.cells
  obtain ⟨zX0, zX1, zX2⟩ := AX.cells
  obtain ⟨zY0, zY1, zY2⟩ := AY.cells
  obtain ⟨zS0, zS1, zS2⟩ := AS.cells
  go_wp2_with fail
  generalize u10.alloc _ = U10 at lx10 ll10 kk10 x0 x1 x2 x3 x4 x5 x6 x7 x8 zX0 zX1 zX2 zY0 zY1 zY2 zS0 zS1 zS2 B1 B2 B3 AX AY AS rnX rdX rnY rdY rnS rdS ⊢
  have znS : lnS.length ≤ K + 1 := Nat.le_trans (rat_len pnS enS.out (RN_le _ _) (Nat.lt_of_le_of_lt (PN_le _ _ _ _) (two_lt (prod_lt mnX mdY K (by omega)) (prod_lt mnY mdX K (by omega))))) (by omega)
  have zdS : ldS.length ≤ K + 1 := Nat.le_trans (rat_len pdS edS.out (RD_le _ _) (prod_lt mdX mdY K (by omega))) (by omega)
  have ndS : val ldS ≠ 0 := by rw [edS.out]; exact RD_pos nzS
  have nzD : (val ldS * val ldY) ≠ 0 := Nat.mul_ne_zero ndS ndY
  have HRD : Hid (RE ((val ldS * val ldY)) = 0) := by show _ = _; unfold RE; rw [if_neg nzD]
  have cD := Minus_form sS sY anS adS anY adY cnS cdS cnY cdY lnS ldS lnY ldY U10 ⟨hcS, hdS, by omega, by omega, rnS, rdS, mnS, mdS⟩ ⟨hcY, hdY, by omega, by omega, rnY, rdY, mnY, mdY⟩
  obtain ⟨sD, hsD⟩ : ∃ s, RS (PG sS (!sY) (val lnS * val ldY) (val lnY * val ldS)) (PN sS (!sY) (val lnS * val ldY) (val lnY * val ldS)) (val ldS * val ldY) = s := ⟨_, rfl⟩
  have HSD : Hid (RS (PG sS (!sY) (val lnS * val ldY) (val lnY * val ldS)) (PN sS (!sY) (val lnS * val ldY) (val lnY * val ldS)) (val ldS * val ldY) = sD) := hsD
  clear hsD
  refine cD.mono ?_
  rintro e u11 ⟨anD, cnD, lnD, adD, cdD, ldD, rfl, hcD, hdD, rnD, rdD, mnD, mdD, pnD, pdD, enD, edD, l11⟩
  rw [HSD.out, HRD.out]
  have lx11 : Keep u11 (u11.alloc (Obj.cells #[Value.bool sD, Value.slice anD lnD.length cnD, Value.slice adD ldD.length cdD] 47)) := (Keep.refl u11).alloc _
  have AD := Box.new u11 (.bool sD) (.slice anD lnD.length cnD) (.slice adD ldD.length cdD)
  have ll11 := l11.trans lx11
  replace enD : Hid (val lnD = RN (PN sS (!sY) (val lnS * val ldY) (val lnY * val ldS)) (val ldS * val ldY)) := enD
  replace edD : Hid (val ldD = RD (PN sS (!sY) (val lnS * val ldY) (val lnY * val ldS)) (val ldS * val ldY)) := edD
  clear cD
  clear x0 x1 x2 x3 x4 x5 x6 x7 x8 zX0 zX1 zX2 zY0 zY1 zY2 zS0 zS1 zS2
  have B1 := B1.keep ll11
  have B2 := B2.keep ll11
  have B3 := B3.keep ll11
  have AX := AX.keep ll11
  have AY := AY.keep ll11
  have AS := AS.keep ll11
  have rnX := rnX.keep ll11
  have rdX := rdX.keep ll11
  have rnY := rnY.keep ll11
  have rdY := rdY.keep ll11
  have rnS := rnS.keep ll11
  have rdS := rdS.keep ll11
  have rnD := rnD.keep lx11
  have rdD := rdD.keep lx11
  have kk11 := kk10.trans ll11
  obtain ⟨x0, x1, x2⟩ := B1.cells
  obtain ⟨x3, x4, x5⟩ := B2.cells
  obtain ⟨x6, x7, x8⟩ := B3.cells
  obtain ⟨zX0, zX1, zX2⟩ := AX.cells
  obtain ⟨zY0, zY1, zY2⟩ := AY.cells
  obtain ⟨zS0, zS1, zS2⟩ := AS.cells
  obtain ⟨zD0, zD1, zD2⟩ := AD.cells
  go_wp2_with fail
  generalize u11.alloc _ = U11 at lx11 ll11 kk11 x0 x1 x2 x3 x4 x5 x6 x7 x8 zX0 zX1 zX2 zY0 zY1 zY2 zS0 zS1 zS2 zD0 zD1 zD2 B1 B2 B3 AX AY AS AD rnX rdX rnY rdY rnS rdS rnD rdD ⊢
  have znD : lnD.length ≤ (4 * K) + 1 := Nat.le_trans (rat_len pnD enD.out (RN_le _ _) (Nat.lt_of_le_of_lt (PN_le _ _ _ _) (two_lt (prod_lt mnS mdY (4 * K) (by omega)) (prod_lt mnY mdS (4 * K) (by omega))))) (by omega)
  have zdD : ldD.length ≤ (4 * K) + 1 := Nat.le_trans (rat_len pdD edD.out (RD_le _ _) (prod_lt mdS mdY (4 * K) (by omega))) (by omega)
  have ndD : val ldD ≠ 0 := by rw [edD.out]; exact RD_pos nzD
  have hself := T_self n1 (val la) (val lb) h0
  rw [HSX.out, ← enX.out, ← edX.out] at hself
  obtain ⟨hfa, hord⟩ := field_again sX sY (val lnX) (val ldX) (val lnY) (val ldY) ndX ndY sS (val lnS) (val ldS) HSS.out enS.out edS.out
  rw [hself.1, hself.2.1, hself.2.2] at hfa
  have HORD : Hid (rordV sS sX (val lnS * val ldX) (val lnX * val ldS) = rordV sY false (val lnY * 1) (0 * val ldY)) := hord
  have HSELF : Hid (RS sX (val lnX) (val ldX) = sX ∧ RN (val lnX) (val ldX) = val lnX ∧ RD (val lnX) (val ldX) = val ldX) := hself
  obtain rfl : lnX = lnD := val_inj mnX mnD pnX pnD (by rw [enD.out, hfa.2.1])
  obtain rfl : ldX = ldD := val_inj mdX mdD pdX pdD (by rw [edD.out, hfa.2.2])
  have hsg : sX = sD := by rw [← HSD.out]; exact hfa.1.symm
  subst hsg
  clear hfa hord hself
  have hAl := Alike_same sX anD adD anX adX cnD cdD cnX cdX lnX ldX U11 (by omega) (by omega) rnD rdD rnX rdX
  refine hAl.mono ?_
  rintro e u12 ⟨rfl, l12⟩
  clear hAl
  clear x0 x1 x2 x3 x4 x5 x6 x7 x8 zX0 zX1 zX2 zY0 zY1 zY2 zS0 zS1 zS2 zD0 zD1 zD2
  have B1 := B1.keep l12
  have B2 := B2.keep l12
  have B3 := B3.keep l12
  have AX := AX.keep l12
  have AY := AY.keep l12
  have AS := AS.keep l12
  have AD := AD.keep l12
  have rnX := rnX.keep l12
  have rdX := rdX.keep l12
  have rnY := rnY.keep l12
  have rdY := rdY.keep l12
  have rnS := rnS.keep l12
  have rdS := rdS.keep l12
  have rnD := rnD.keep l12
  have rdD := rdD.keep l12
  have kk12 := kk11.trans l12
  obtain ⟨x0, x1, x2⟩ := B1.cells
  obtain ⟨x3, x4, x5⟩ := B2.cells
  obtain ⟨x6, x7, x8⟩ := B3.cells
  obtain ⟨zX0, zX1, zX2⟩ := AX.cells
  obtain ⟨zY0, zY1, zY2⟩ := AY.cells
  obtain ⟨zS0, zS1, zS2⟩ := AS.cells
  obtain ⟨zD0, zD1, zD2⟩ := AD.cells
  go_wp2_with fail
  clear AD zD0 zD1 zD2
  have hny : val lnY = 0 := by rw [enY.out]; simp [RN, h3]
  have HRQ : Hid (RE (val ldX * val lnY) = 11) := by show _ = _; simp [RE, hny]
  have cQ := By_form sX sY anX adX anY adY cnX cdX cnY cdY lnX ldX lnY ldY u12 ⟨hcX, hdX, by omega, by omega, rnX, rdX, mnX, mdX⟩ ⟨hcY, hdY, by omega, by omega, rnY, rdY, mnY, mdY⟩
  rw [if_neg ndY] at cQ
  obtain ⟨sQ, hsQ⟩ : ∃ s, RS (sX != sY) (val lnX * val ldY) (val ldX * val lnY) = s := ⟨_, rfl⟩
  have HSQ : Hid (RS (sX != sY) (val lnX * val ldY) (val ldX * val lnY) = sQ) := hsQ
  clear hsQ
  refine cQ.mono ?_
  rintro e u13 ⟨anQ, cnQ, lnQ, adQ, cdQ, ldQ, rfl, hcQ, hdQ, rnQ, rdQ, mnQ, mdQ, pnQ, pdQ, enQ, edQ, l13⟩
  rw [HSQ.out, HRQ.out]
  have lx13 : Keep u13 (u13.alloc (Obj.cells #[Value.bool sQ, Value.slice anQ lnQ.length cnQ, Value.slice adQ ldQ.length cdQ] 47)) := (Keep.refl u13).alloc _
  have AQ := Box.new u13 (.bool sQ) (.slice anQ lnQ.length cnQ) (.slice adQ ldQ.length cdQ)
  have ll13 := l13.trans lx13
  replace enQ : Hid (val lnQ = RN (val lnX * val ldY) (val ldX * val lnY)) := enQ
  replace edQ : Hid (val ldQ = RD (val lnX * val ldY) (val ldX * val lnY)) := edQ
  clear cQ
  clear x0 x1 x2 x3 x4 x5 x6 x7 x8 zX0 zX1 zX2 zY0 zY1 zY2 zS0 zS1 zS2
  have B1 := B1.keep ll13
  have B2 := B2.keep ll13
  have B3 := B3.keep ll13
  have AX := AX.keep ll13
  have AY := AY.keep ll13
  have AS := AS.keep ll13
  have rnX := rnX.keep ll13
  have rdX := rdX.keep ll13
  have rnY := rnY.keep ll13
  have rdY := rdY.keep ll13
  have rnS := rnS.keep ll13
  have rdS := rdS.keep ll13
  have rnQ := rnQ.keep lx13
  have rdQ := rdQ.keep lx13
  have kk13 := kk12.trans ll13
  obtain ⟨x0, x1, x2⟩ := B1.cells
  obtain ⟨x3, x4, x5⟩ := B2.cells
  obtain ⟨x6, x7, x8⟩ := B3.cells
  obtain ⟨zX0, zX1, zX2⟩ := AX.cells
  obtain ⟨zY0, zY1, zY2⟩ := AY.cells
  obtain ⟨zS0, zS1, zS2⟩ := AS.cells
  obtain ⟨zQ0, zQ1, zQ2⟩ := AQ.cells
  go_wp2_with fail
  generalize u13.alloc _ = U13 at lx13 ll13 kk13 x0 x1 x2 x3 x4 x5 x6 x7 x8 zX0 zX1 zX2 zY0 zY1 zY2 zS0 zS1 zS2 zQ0 zQ1 zQ2 B1 B2 B3 AX AY AS AQ rnX rdX rnY rdY rnS rdS rnQ rdQ ⊢
  have cN14 := Len_any anY cnY lnY U13 hcY (by omega) rnY mnY
  rw [(lenB_nought mnY).2 hny] at cN14
  refine cN14.mono ?_
  rintro e u14 ⟨rfl, dr14⟩
  go_wp2_with fail
  go_ret
  exact ⟨rfl, kk13.trans dr14.keep⟩
end Go.Proofs.YtbjidpooociamaaDoor
