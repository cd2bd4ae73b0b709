import Derived.Test.YtbjidpooociamaaDoorP6
import Derived.Test.YtbjidpooociamaaDoorC19
set_option linter.unusedVariables false
set_option linter.unusedSimpArgs false
namespace Go.Proofs.YtbjidpooociamaaDoor
open Go.RowKit Lb
set_option maxRecDepth 100000 in
set_option maxHeartbeats 8000000 in
theorem law_lown (ng : Bool) (a b an ad : Option Addr) (ca cb cn cd : Nat) (la lb ln ld : List Nat) (w : World) (ga : la.length ≤ ca) (gb : lb.length ≤ cb) (gn : ln.length ≤ cn) (gd : ld.length ≤ cd)
    (hla : la.length ≤ 35184372087808) (hlb : lb.length ≤ 35184372087808) (hln : ln.length ≤ 35184372087808) (hld : ld.length ≤ 35184372087808) (hra : Rd w a la) (hrb : Rd w b lb) (hrn : Rd w an ln) (hrd : Rd w ad ld) (hma : Lim la) (hmb : Lim lb) (hmn : Lim ln) (hmd : Lim ld) :
    Calls Tryd.prog 12 #[.slice a la.length ca, .slice b lb.length cb, .agg #[.bool ng, .slice an ln.length cn, .slice ad ld.length cd]] w fun e w' => e = .returned (.bool true) ∧ Keep w w' := by
  obtain ⟨wx, hwx⟩ : ∃ wx, w.alloc (.cells #[.bool ng, .slice an ln.length cn, .slice ad ld.length cd] 47) = wx := ⟨_, rfl⟩
  have k0 : Keep w wx := by rw [← hwx]; exact (Keep.refl w).alloc _
  have Bx : Box wx w.heap.size (.bool ng) (.slice an ln.length cn) (.slice ad ld.length cd) := by rw [← hwx]; exact Box.new w _ _ _
  go_enter Tryd.func12, Tryd.ntmps12
  go_wp2_with fail
  try rw [hwx]
  clear hwx
  refine (lives_any _).mono ?_
  rintro e w1 ⟨rfl, k1⟩
  have K1 := k0.trans k1
  go_wp2_with fail
  refine (copied_any a ca la w1 (by omega) (hra.keep K1)).mono ?_
  rintro e w2 ⟨v2, rfl, O2, k2⟩
  obtain ⟨a2, c2, rfl, g2, r2⟩ := O2.shape
  have K2 := K1.trans k2
  go_wp2_with fail
  refine (copied_any b cb lb w2 (by omega) (hrb.keep K2)).mono ?_
  rintro e w3 ⟨v3, rfl, O3, k3⟩
  obtain ⟨a3, c3, rfl, g3, r3⟩ := O3.shape
  have K3 := K2.trans k3
  have r2 := r2.keep k3
  have kb : Keep wx w3 := (k1.trans k2).trans k3
  clear O2 O3
  go_wp2_with fail
  refine (Norm_any a2 c2 la w3 g2 (by omega) r2).mono ?_
  rintro e w4 ⟨v4, rfl, R4, k4⟩
  obtain ⟨S4, p4⟩ := R4.sl
  obtain ⟨a4, c4, e4, -⟩ := S4.shape
  have j4 : (la.take (nl la)).length ≤ 35184372087809 := by simp; omega
  generalize la.take (nl la) = l4 at *
  subst e4
  go_wp2_with fail
  refine (Add_any a2 a3 c2 c3 la lb w4 g2 g3 (by omega) (by omega) (r2.keep k4) (r3.keep k4) hma hmb).mono ?_
  rintro e w5 ⟨v5, rfl, N5, k5⟩
  obtain ⟨l5, S5, p5, -, m5, u5⟩ := N5.natQ.sl
  obtain ⟨a5, c5, e5, -⟩ := S5.shape
  have j5 := len_both m5 hma hmb (by omega) 35184372087808 hla hlb
  clear R4 N5
  subst e5
  have K45 := k4.trans k5
  go_wp2_with fail
  refine (DivMod_both a2 a3 c2 c3 la lb w5 g2 g3 (by omega) (by omega) (r2.keep K45) (r3.keep K45) hma hmb).mono ?_
  rintro e w6 ⟨M6, vq, vr, E6, nq, nr, rfl, i6, o6, Nq, Nr, uq, ur, k6⟩
  obtain ⟨lq, Sq, pq, -, mq, hq⟩ := Nq.sl
  obtain ⟨lr, Sr, pr, -, mr, hr⟩ := Nr.sl
  obtain ⟨aq, cq, eq, -⟩ := Sq.shape
  obtain ⟨ar, cr, er, -⟩ := Sr.shape
  have jq := len_both mq hma hmb (by omega) 35184372087808 hla hlb
  have jr := len_both mr hma hmb (by omega) 35184372087808 hla hlb
  clear Nq Nr
  subst eq er
  have K46 := K45.trans k6
  go_wp2_with fail
  refine (Pow_own a2 c2 la w6 g2 (by omega) (r2.keep K46) hma).mono ?_
  rintro e w7 ⟨v7, E7, n7, rfl, N7, u7, k7⟩
  obtain ⟨l7, S7, p7, -, m7, q7⟩ := N7.natQ.sl
  obtain ⟨a7, c7, e7, -⟩ := S7.shape
  have j7 := len_both m7 hma hmb (by omega) 35184372087808 hla hlb
  clear N7
  subst e7
  have K47 := K46.trans k7
  go_wp2_with fail
  refine (Gcd_any a2 a3 c2 c3 la lb w7 g2 g3 (by omega) (by omega) (r2.keep K47) (r3.keep K47) hma hmb).mono ?_
  rintro e w8 ⟨v8, rfl, N8, k8⟩
  obtain ⟨l8, S8, p8, -, m8, q8⟩ := N8.natQ.sl
  obtain ⟨a8, c8, e8, -⟩ := S8.shape
  have j8 := len_both m8 hma hmb (by
    rw [q8]
    rcases Nat.eq_zero_or_pos (val la) with h | h
    · rw [h, Nat.gcd_zero_left]; omega
    · have := Nat.gcd_le_left (val lb) h; omega) 35184372087808 hla hlb
  clear N8
  subst e8
  have K48 := K47.trans k8
  go_wp2_with fail
  have H9 := Up_any a2 c2 0 la w8 g2 (by omega) (by omega) (r2.keep K48) hma
  refine H9.mono ?_
  rintro e w9 ⟨v9, rfl, N9, k9⟩
  obtain ⟨l9, S9, p9, -, m9, q9⟩ := N9.natQ.sl
  obtain ⟨a9, c9, e9, -⟩ := S9.shape
  have j9 := len_both m9 hma hmb (by rw [q9]; omega) 35184372087808 hla hlb
  clear N9 H9
  subst e9
  have K49 := K48.trans k9
  go_wp2_with fail
  have H10 := Down_any a2 c2 0 la w9 g2 (by omega) (by omega) (r2.keep K49) hma
  refine H10.mono ?_
  rintro e w10 ⟨v10, rfl, N10, k10⟩
  obtain ⟨l10, S10, p10, -, m10, q10⟩ := N10.natQ.sl
  obtain ⟨a10, c10, e10, -⟩ := S10.shape
  have j10 := len_both m10 hma hmb (by rw [q10]; omega) 35184372087808 hla hlb
  clear N10 H10
  subst e10
  have K410 := K49.trans k10
  go_wp2_with fail
  have H11 := Sub_any a2 none c2 0 la [] w10 g2 (by simp) (by omega) (by simp) (r2.keep K410) (Rd.nil _ _) hma (by intro x hx; simp at hx)
  refine H11.mono ?_
  rintro e w11 ⟨hh, k11⟩
  rcases hh with ⟨hh, -⟩ | ⟨-, v11, rfl, N11⟩
  · simp [val] at hh
  obtain ⟨l11, S11, p11, -, m11, q11⟩ := N11.natQ.sl
  obtain ⟨a11, c11, e11, -⟩ := S11.shape
  have j11 := len_both m11 hma hmb (by rw [q11]; omega) 35184372087808 hla hlb
  clear N11 H11
  subst e11
  have K411 := K410.trans k11
  obtain ⟨wm, hwm⟩ : ∃ wm, w11.alloc (.cells #[.int .u32 1] 62) = wm := ⟨_, rfl⟩
  have km : Keep w11 wm := by rw [← hwm]; exact (Keep.refl w11).alloc _
  have rm : Row wm w11.heap.size [1] := by rw [← hwm]; exact Row.alloc1 w11 1
  go_wp2_with fail
  try rw [hwm]
  have K4m := K411.trans km
  have H12 := Mul_any a2 (some ⟨w11.heap.size, 0, none⟩) c2 1 la [1] wm g2 (by simp) (by omega) (by simp) (r2.keep K4m) rm.rd0 hma (by intro x hx; simp at hx; omega)
  refine H12.mono ?_
  rintro e w12 ⟨v12, rfl, N12, k12⟩
  obtain ⟨l12, S12, p12, -, m12, q12⟩ := N12.natR.natQ.sl
  obtain ⟨a12, c12, e12, -⟩ := S12.shape
  have j12 := len_both m12 hma hmb (by rw [q12]; simp [val]) 35184372087808 hla hlb
  clear N12 H12
  subst e12
  go_wp2_with fail
  generalize hwa : (w12.alloc _).alloc _ = wa
  have K412 := K4m.trans k12
  have x12 := km.trans k12
  have x11 := k11.trans x12
  have x10 := k10.trans x11
  have x9 := k9.trans x10
  have x8 := k8.trans x9
  have x7 := k7.trans x8
  have x6 := k6.trans x7
  have x5 := k5.trans x6
  obtain ⟨VL, hVL⟩ : ∃ VL, [Value.slice a4 l4.length c4, .slice a5 l5.length c5, .slice aq lq.length cq, .slice ar lr.length cr, .slice a7 l7.length c7, .slice a8 l8.length c8, .slice a9 l9.length c9, .slice a10 l10.length c10, .slice a11 l11.length c11, .slice a12 l12.length c12] = VL := ⟨_, rfl⟩
  obtain ⟨LL, hLL⟩ : ∃ LL, [l4, l5, lq, lr, l7, l8, l9, l10, l11, l12] = LL := ⟨_, rfl⟩
  have hR : Runs w12 w3.heap.size w12.heap.size VL LL := by
    rw [← hVL, ← hLL]
    exact ⟨_, k4.le, S4.keep x5, p4, _, k5.le, S5.keep x6, p5, M6, i6, Sq.keep x7, pq, w6.heap.size, o6, Sr.keep x7, pr, _, k7.le, S7.keep x8, p7, _, k8.le, S8.keep x9, p8, _, k9.le, S9.keep x10, p9, _, k10.le, S10.keep x11, p10, _, k11.le, S11.keep x12, p11, _, x12.le, S12, fun g hg => by have := p12 g hg; have := km.le; omega, Nat.le_refl _⟩
  have h10 : VL.length = 10 := by rw [← hVL]; rfl
  have hl10 : LL.length = 10 := by rw [← hLL]; rfl
  have hJ : ∀ i, (LL.getD i []).length ≤ 35184372087809 := by
    intro i
    rw [← hLL]
    match i with
    | 0 => exact j4
    | 1 => exact j5
    | 2 => exact jq
    | 3 => exact jr
    | 4 => exact j7
    | 5 => exact j8
    | 6 => exact j9
    | 7 => exact j10
    | 8 => exact j11
    | 9 => exact j12
    | n + 10 => simp
  have hwa' : (w12.alloc (.cells VL.toArray 63)).alloc (.cells (List.replicate 10 nilS).toArray 63) = wa := by rw [← hVL, ← hwa]; rfl
  have hW : WI w12 w12.heap.size VL LL 0 (List.replicate 10 nilS) wa := by
    rw [← hwa']
    refine ⟨((Keep.refl w12).alloc _).alloc _, ?_, ?_, by simp, by simp, fun j hj => by omega⟩
    · rw [((Keep.refl (w12.alloc (.cells VL.toArray 63))).alloc (.cells (List.replicate 10 nilS).toArray 63)).block w12.heap.size (by simp)]
      exact heap_alloc_new _ _
    · have := heap_alloc_new (w12.alloc (.cells VL.toArray 63)) (.cells (List.replicate 10 nilS).toArray 63)
      simpa using this
  have HW : Hid (WI w12 w12.heap.size VL LL 0 (List.replicate 10 nilS) wa) := hW
  have HR : Hid (Runs w12 w3.heap.size w12.heap.size VL LL) := hR
  have HJ : Hid (∀ i, (LL.getD i []).length ≤ 35184372087809) := hJ
  have HV : Hid (VL.length = 10 ∧ LL.length = 10) := ⟨h10, hl10⟩
  obtain ⟨A, hA⟩ : ∃ A, w12.heap.size = A := ⟨_, rfl⟩
  have HA : Hid (w12.heap.size = A) := hA
  rw [hA] at HW HR ⊢
  clear hA hwa' hwa hVL hLL hW hR hJ h10 hl10 S4 S5 Sq Sr S7 S8 S9 S10 S11 S12 p4 p5 pq pr p7 p8 p9 p10 p11 p12 x12 x11 x10 x9 x8 x7 x6 x5 j4 j5 jq jr j7 j8 j9 j10 j11 j12 m5 mq mr m7 m8 m9 m10 m11 m12 u5 uq ur u7 hq hr q7 q8 q9 q10 q11 q12 K4m K411 K410 K49 K48 K47 K46 K45 km rm k4 k5 k6 k7 k8 k9 k10 k11 k12 i6 o6
  go_loopw [98] (fun i wr => ∃ (j : Nat) (WV : List Value), i = .int .i64 (j : Int) ∧ j ≤ 10 ∧ Hid (WI w12 A VL LL j WV wr)) (fun i wr => 10 - (intOf i).toNat)
  case atStart => exact ⟨0, _, rfl, by omega, HW⟩
  case round =>
    clear HW
    obtain ⟨j, WV, rfl, hj, HW⟩ := hrel
    by_cases hlt : j < 10
    · have hltc : (j : Int) < 10 := by omega
      obtain ⟨lj, hlj⟩ : ∃ l, LL.getD j [] = l := ⟨_, rfl⟩
      have HL : Hid (LL.getD j [] = lj) := hlj
      have hS := ((HR.out.sl j (by have := HV.out.1; omega)).1).keep HW.out.kp
      rw [hlj] at hS
      obtain ⟨av, cv, ev, gv, rv⟩ := hS.shape
      have cl := arr_cell HW.out.ar j (by have := HV.out.1; omega)
      rw [ev] at cl
      have cw := arr_cell HW.out.aw j (by have := HW.out.lw; omega)
      have hb : lj.length ≤ 35184372087809 := by rw [← hlj]; exact HJ.out j
      have hC := copied_any av cv lj wr (by omega) rv
      have HJ1 : Hid (j < 10) := hlt
      have hj0 : (0 : Int) ≤ (j : Int) := by omega
      generalize WV.getD j nilS = old at cw
      clear hlj hS ev
      go_wp2_with fail
      refine hC.mono ?_
      rintro e wB ⟨v', rfl, OB, kB⟩
      have HW2 : Hid (WI w12 A VL LL (j + 1) (WV.set j v') (wB.setCell ⟨A + 1, j, none⟩ v')) := HW.out.step HA.out HJ1.out v' (by rw [HL.out]; exact OB) kB
      obtain ⟨ab', cb', rfl, -⟩ := OB.shape
      have cw2 := kB.cell cw
      have fw2 := frozen_of_row wB (A + 1) j _ 63 ((kB.block (A + 1) HW.out.sz).trans HW.out.aw)
      clear cl cw
      go_wp2_with fail
      go_roundw
      case rel => exact ⟨j + 1, _, by go_num, by have := HJ1.out; omega, HW2⟩
      case measure => have := HJ1.out; simp [intOf]; omega
    · have hltc : ¬ (j : Int) < 10 := by omega
      have hj10 : j = 10 := by omega
      have HW10 : Hid (WI w12 A VL LL 10 WV wr) := by unfold Hid; have := HW.out; rwa [hj10] at this
      clear HW hlt hj hj10
      obtain ⟨w0, hw0⟩ : ∃ w0, w0 = wr := ⟨_, rfl⟩
      subst hw0
      have HT : Hid (X1 w3 w0 A VL LL 0 0 w0) := X1.start (TI.start K412 HR.out HV.out.1 HV.out.2 HW10.out HA.out)
      have HAw : Hid (w3.heap.size ≤ A ∧ A < w0.heap.size) := by
        have h1 := K412.le
        have h2 := HW10.out.sz
        have h3 := HA.out
        unfold Hid
        omega
      have HS : Hid (∀ i, i < 10 → ∃ a c, VL.getD i nilS = .slice a (LL.getD i []).length c ∧ (LL.getD i []).length ≤ c) := fun i hi => by
        obtain ⟨a, c, e, g, -⟩ := (HR.out.sl i (by have := HV.out.1; omega)).1.shape
        exact ⟨a, c, e, g⟩
      have HK : Hid (Keep w3 w12) := K412
      clear K412
      go_wp2_with fail
      go_loopw [108] (fun i wr => ∃ j : Nat, i = .int .i64 (j : Int) ∧ j ≤ 10 ∧ Hid (X1 w3 w0 A VL LL j 0 wr)) (fun i wr => 10 - (intOf i).toNat)
      case atStart => exact ⟨0, rfl, by omega, HT⟩
      case round =>
        clear HT
        obtain ⟨i, rfl, hi, HX⟩ := hrel
        by_cases hlt : i < 10
        · have hltc : (i : Int) < 10 := by omega
          have hi0 : (0 : Int) ≤ (i : Int) := by omega
          have HI1 : Hid (i < 10) := hlt
          obtain ⟨l, hl⟩ : ∃ l, LL.getD i [] = l := ⟨_, rfl⟩
          have HL : Hid (LL.getD i [] = l) := hl
          have hbl : l.length ≤ 35184372087809 := by rw [← hl]; exact HJ.out i
          obtain ⟨av, cv, ev, gv⟩ := HS.out i hlt
          rw [hl] at ev gv
          have cA : wr.cell? ⟨A, i, none⟩ = some (.slice av l.length cv) := by
            obtain ⟨L', h1, -⟩ := HX.out
            have := arr_cell h1.ar i (by rw [h1.lv]; exact hlt)
            rwa [ev] at this
          have HE : Hid (VL.getD i nilS = .slice av l.length cv) := ev
          clear hl ev hlt
          go_wp2_with fail
          clear cA
          go_loopw [115] (fun t wr => ∃ k : Nat, t = .int .i64 (k : Int) ∧ k ≤ l.length ∧ Hid (X1 w3 w0 A VL LL i k wr)) (fun t wr => l.length - (intOf t).toNat)
          case atStart => exact ⟨0, rfl, by omega, HX⟩
          case round =>
            clear HX
            obtain ⟨k, rfl, hk, HX⟩ := hrel
            by_cases hlk : k < l.length
            · obtain ⟨g, cap, ev, gv2, ck, fk, HX2⟩ := HX.out.at HAw.out HI1.out (k := k) (by rw [HL.out]; exact hlk)
              have cA : wr.cell? ⟨A, i, none⟩ = some (VL.getD i nilS) := by
                obtain ⟨L', h1, -⟩ := HX.out
                exact arr_cell h1.ar i (by rw [h1.lv]; exact HI1.out)
              have ev2 := HE.out
              rw [HL.out] at ev gv2 ck HX2
              rw [ev] at ev2 cA
              simp only [Value.slice.injEq] at ev2
              obtain ⟨rfl, -, rfl⟩ := ev2
              obtain ⟨x, hx⟩ : ∃ x, l.getD k 0 = x := ⟨_, rfl⟩
              rw [hx] at ck HX2
              have hxr := xr_eq x
              obtain ⟨y, hy⟩ : ∃ y, xr x = y := ⟨_, rfl⟩
              rw [hy] at hxr HX2
              have HX3 : Hid (X1 w3 w0 A VL LL i (k + 1) (wr.setCell ⟨g, k, none⟩ (.int .u32 (y : Nat)))) := HX2
              have HK1 : Hid (k < l.length) := hlk
              have hkc : (k : Int) < (l.length : Int) := by omega
              have hk0 : (0 : Int) ≤ (k : Int) := by omega
              clear hx hy ev HX2 hlk
              go_wp2_with fail
              go_big_region
              go_wp2_with fail
              go_roundw
              case rel => exact ⟨k + 1, by go_num, HK1.out, HX3.out.drew⟩
              case measure => have h9 : k < l.length := HK1.out; simp [intOf]; omega
            · have hkc : ¬ (k : Int) < (l.length : Int) := by omega
              have HX4 : Hid (X1 w3 w0 A VL LL (i + 1) 0 wr) := HX.out.next (by rw [HL.out]; omega)
              clear HX hlk hk
              go_wp2_with fail
              go_roundw
              case rel => exact ⟨i + 1, by go_num, by have := HI1.out; omega, HX4⟩
              case measure => have := HI1.out; simp [intOf]; omega
        · have hltc : ¬ (i : Int) < 10 := by omega
          have hi10 : i = 10 := by omega
          have HY : Hid (X2 w3 w0 A LL 0 0 wr) := by
            have := HX.out
            rw [hi10] at this
            exact this.grow
          clear HX hlt hi hi10
          go_wp2_with fail
          go_loopw [132] (fun i wr => ∃ j : Nat, i = .int .i64 (j : Int) ∧ j ≤ 10 ∧ Hid (X2 w3 w0 A LL j 0 wr)) (fun i wr => 10 - (intOf i).toNat)
          case atStart => exact ⟨0, rfl, by omega, HY⟩
          case round =>
            clear HY
            obtain ⟨i, rfl, hi, HX⟩ := hrel
            by_cases hlt : i < 10
            · have hltc : (i : Int) < 10 := by omega
              have hi0 : (0 : Int) ≤ (i : Int) := by omega
              have HI1 : Hid (i < 10) := hlt
              clear hlt
              go_wp2_with fail
              go_loopw [30] (fun t wr => ∃ k : Nat, t = .int .i64 (k : Int) ∧ k ≤ 5 ∧ Hid (X2 w3 w0 A LL i k wr)) (fun t wr => 5 - (intOf t).toNat)
              case atStart => exact ⟨0, rfl, by omega, HX⟩
              case round =>
                clear HX
                obtain ⟨k, rfl, hk, HX⟩ := hrel
                by_cases hlk : k < 5
                · have hkc : (k : Int) < 5 := by omega
                  have HK1 : Hid (k < 5) := hlk
                  obtain ⟨v, l, hs, hl, cA, hgrow⟩ := HX.out.at HAw.out HI1.out
                  have hbl : l.length + 1 ≤ 35184372088832 := by have := HJ.out i; omega
                  have HG : Hid (∀ (o : Obj) (wB : World) (v' : Value), Sl wB v' (l ++ [77]) → (wr.alloc o).grownBy wB v.ownBlock → (v'.ownBlock = v.ownBlock ∨ v'.ownBlock = some (wr.heap.size + 1)) → wB.cell? ⟨A, i, none⟩ = some v ∧ wB.frozen? ⟨A, i, none⟩ = false ∧ X2 w3 w0 A LL i (k + 1) (wB.setCell ⟨A, i, none⟩ v')) := hgrow
                  obtain ⟨av, cv, rfl, gv, -⟩ := hs.shape
                  have HSl : Hid (Sl wr (.slice av l.length cv) l) := hs
                  clear hgrow hl hlk hs
                  have tk1 : True := trivial
                  go_wp2_with (first
                    | (at_builtin; have _t := tk1; clear tk1; refine wpList_appS [77] 1 rfl _ _ rfl l (.slice av l.length cv) ?_ HSl.out rfl (by omega) hbl ?_ ?_; rotate_left 2; intro v' wB hs' hg loc
                       obtain ⟨cB, fB, HX2⟩ := HG.out _ wB v' hs' hg loc
                       obtain ⟨a', c', rfl, -⟩ := hs'.shape
                       have HX3 : Hid (X2 w3 w0 A LL i (k + 1) (wB.setCell ⟨A, i, none⟩ (.slice a' (l ++ [77]).length c'))) := HX2
                       clear HX2 hs' hg loc cA))
                  · exact ⟨⟨k + 1, by go_num, HK1.out, by have h := HX3.out; simpa [Hid] using h⟩, by have := HK1.out; simp [intOf]; omega⟩
                  · rfl
                  · rfl
                · have hkc : ¬ (k : Int) < 5 := by omega
                  have HX4 : Hid (X2 w3 w0 A LL (i + 1) 0 wr) := HX.out.next
                  clear HX hlk hk
                  go_wp2_with fail
                  go_roundw
                  case rel => exact ⟨i + 1, by go_num, by have := HI1.out; omega, HX4⟩
                  case measure => have := HI1.out; simp [intOf]; omega
            · have hltc : ¬ (i : Int) < 10 := by omega
              have hi10 : i = 10 := by omega
              have HY : Hid (X3 w3 wr A LL) := by
                have h := HX.out
                rw [hi10] at h
                exact h.done HW10.out
              clear HX hlt hi hi10
              obtain ⟨wE, hwE⟩ : ∃ wE, wE = wr := ⟨_, rfl⟩
              subst hwE
              go_wp2_with fail
              go_loopw [147] (fun i wr => ∃ j : Nat, i = .int .i64 (j : Int) ∧ j ≤ 10 ∧ Hid (Keep wE wr)) (fun i wr => 10 - (intOf i).toNat)
              case atStart => exact ⟨0, rfl, by omega, Keep.refl _⟩
              case round =>
                obtain ⟨i, rfl, hi, HX⟩ := hrel
                by_cases hlt : i < 10
                · have hltc : (i : Int) < 10 := by omega
                  have hi0 : (0 : Int) ≤ (i : Int) := by omega
                  have HI1 : Hid (i < 10) := hlt
                  obtain ⟨v, wv, av, cv, cA0, cW0, rfl, hat⟩ := HY.out.at' i hlt
                  obtain ⟨l, hl⟩ : ∃ l, LL.getD i [] = l := ⟨_, rfl⟩
                  have hbl : l.length ≤ 35184372087809 := by rw [← hl]; exact HJ.out i
                  rw [hl] at cW0 hat
                  have HAT : Hid (∀ k, k < l.length → ∃ g n cap b o, v = .slice (some ⟨g, 0, none⟩) n cap ∧ l.length ≤ n ∧ wE.cell? ⟨g, k, none⟩ = some (.int .u32 (xr (l.getD k 0) : Nat)) ∧ av = some ⟨b, o, none⟩ ∧ wE.cell? ⟨b, o + k, none⟩ = some (.int .u32 (l.getD k 0 : Nat))) := hat
                  have cW := HX.out.cell cW0
                  have HCA : Hid (wE.cell? ⟨A, i, none⟩ = some v) := cA0
                  have HCW : Hid (wE.cell? ⟨A + 1, i, none⟩ = some (.slice av l.length cv)) := cW0
                  clear hl hlt hat cA0 cW0
                  go_wp2_with fail
                  clear cW
                  go_loopw [154] (fun t wr => ∃ k : Nat, t = .int .i64 (k : Int) ∧ k ≤ l.length ∧ Hid (Keep wE wr)) (fun t wr => l.length - (intOf t).toNat)
                  case atStart => exact ⟨0, rfl, by omega, HX⟩
                  case round =>
                    clear HX
                    obtain ⟨k, rfl, hk, HX⟩ := hrel
                    by_cases hlk : k < l.length
                    · obtain ⟨g, n, cap, b', o', rfl, hn, cg, rfl, cb'⟩ := HAT.out k hlk
                      have cA := HX.out.cell HCA.out
                      have cW := HX.out.cell HCW.out
                      have cg2 := HX.out.cell cg
                      have cb2 := HX.out.cell cb'
                      obtain ⟨x, hx⟩ : ∃ x, l.getD k 0 = x := ⟨_, rfl⟩
                      rw [hx] at cg2 cb2
                      have hxr := xr_eq x
                      obtain ⟨y, hy⟩ : ∃ y, xr x = y := ⟨_, rfl⟩
                      rw [hy] at hxr cg2
                      have HK1 : Hid (k < l.length) := hlk
                      have hkc : (k : Int) < (l.length : Int) := by omega
                      have hkn : (k : Int) < (n : Int) := by omega
                      have hk0 : (0 : Int) ≤ (k : Int) := by omega
                      clear hx hy hlk cg cb'
                      go_wp2_with fail
                      go_quiet (fail)
                      go_wp2_with fail
                      go_roundw
                      case rel => exact ⟨k + 1, by go_num, HK1.out, HX.out.drewN _⟩
                      case measure => have h9 : k < l.length := HK1.out; simp [intOf]; omega
                    · have hkc : ¬ (k : Int) < (l.length : Int) := by omega
                      clear hlk hk
                      go_wp2_with fail
                      go_roundw
                      case rel => exact ⟨i + 1, by go_num, by have := HI1.out; omega, HX⟩
                      case measure => have := HI1.out; simp [intOf]; omega
                · have hltc : ¬ (i : Int) < 10 := by omega
                  have KE : Keep w3 wr := HY.out.kp.trans HX.out
                  clear HX HY HW10 HAw HS HJ HR HV HK HA hlt hi
                  have q2 := r2.keep KE
                  have q3 := r3.keep KE
                  have KW := K3.trans KE
                  have qa := hra.keep KW
                  have qb := hrb.keep KW
                  go_wp2_with fail
                  refine (Same_any a2 a c2 ca la wr (by omega) q2 qa).mono ?_
                  rintro e w13 ⟨rfl, d13⟩
                  have k13 : Keep wr w13 := d13.keep
                  go_wp2_with fail
                  refine (Same_any a3 b c3 cb lb w13 (by omega) (q3.keep k13) (qb.keep k13)).mono ?_
                  rintro e w14 ⟨rfl, d14⟩
                  have k14 := k13.trans d14.keep
                  go_wp2_with fail
                  refine (Norm_any a2 c2 la w14 g2 (by omega) (q2.keep k14)).mono ?_
                  rintro e w15 ⟨v15, rfl, R15, k15⟩
                  have hN := rNorm_any a ca la w15 ga (by omega) (qa.keep (k14.trans k15))
                  have jt : (la.take (nl la)).length ≤ 35184372087809 := by simp; omega
                  generalize la.take (nl la) = lt at R15 hN jt
                  obtain ⟨a15, c15, rfl, g15, r15⟩ := R15.shape
                  go_wp2_with fail
                  refine hN.mono ?_
                  rintro e w16 ⟨v16, rfl, O16, k16⟩
                  obtain ⟨a16, c16, rfl, g16, r16⟩ := O16.shape
                  go_wp2_with fail
                  refine (Same_any a15 a16 c15 c16 lt w16 (by omega) (r15.keep k16) r16).mono ?_
                  rintro e w17 ⟨rfl, d17⟩
                  have KX : Keep wx w17 := (kb.trans KE).trans (((k14.trans k15).trans k16).trans d17.keep)
                  have Bx17 := Bx.keep KX
                  obtain ⟨x0, x1, x2⟩ := Bx17.cells
                  have K17 : Keep w w17 := k0.trans KX
                  have hRt := ratio_any ng an ad cn cd ln ld w17 (by omega) (by omega) (hrn.keep K17) (hrd.keep K17)
                  clear q2 q3 qa qb KW KE r15 r16 O16 R15 hN d13 d14 d17 k13 k14 k15 k16
                  go_wp2_with fail
                  refine hRt.mono ?_
                  rintro e w18 ⟨ay, cy, az, cz, rfl, gy, gz, ry, rz, k18⟩
                  have B18 := Bx17.keep k18
                  have HBx : Hid (Box w18 w.heap.size (.bool ng) (.slice an ln.length cn) (.slice ad ld.length cd)) := B18
                  have K18 : Keep w w18 := K17.trans k18
                  obtain ⟨wy, hwy⟩ : ∃ wy, w18.alloc (.cells #[.bool ng, .slice ay ln.length cy, .slice az ld.length cz] 47) = wy := ⟨_, rfl⟩
                  have ky : Keep w18 wy := by rw [← hwy]; exact (Keep.refl w18).alloc _
                  have By : Box wy w18.heap.size (.bool ng) (.slice ay ln.length cy) (.slice az ld.length cz) := by rw [← hwy]; exact Box.new w18 _ _ _
                  obtain ⟨y0, y1, y2⟩ := By.cells
                  clear x0 x1 x2 B18 Bx17 hRt
                  by_cases hd0 : val ld = 0
                  · have hO := Over_zero ng ay az cy cz ln ld wy gy gz (by omega) (by omega) (ry.keep ky) (rz.keep ky) (nl_val.2 hd0)
                    go_wp2_with fail
                    try rw [hwy]
                    clear hwy
                    refine hO.mono ?_
                    rintro e w20 ⟨rfl, k20⟩
                    go_wp2_with fail
                    go_ret
                    exact ⟨rfl, ((K18.trans ky).trans k20).alloc _⟩
                  · have hO := Over_both ng ay az cy cz ln ld wy gy gz (by omega) (by omega) (ry.keep ky) (rz.keep ky) hmn hmd hd0
                    have HD0 : Hid (val ld ≠ 0) := hd0
                    clear hd0
                    go_wp2_with fail
                    try rw [hwy]
                    clear hwy
                    refine hO.mono ?_
                    rintro e w20 ⟨M, s, vn, vd, nn, nd, rfl, m1, m2, Nn, Nd, un, ud, k20⟩
                    obtain ⟨lo, So, po, -, mo, qo⟩ := Nn.sl
                    obtain ⟨lp, Sp, pp, -, mp, qp⟩ := Nd.sl
                    have jo : lo.length ≤ 35184372087808 := Nat.le_trans (len_le_of_val mo hmn (by omega)) hln
                    have jp : lp.length ≤ 35184372087808 := Nat.le_trans (len_le_of_val mp hmd (by omega)) hld
                    obtain ⟨ao, co, eo, -⟩ := So.shape
                    obtain ⟨ap, cp, ep, -⟩ := Sp.shape
                    have HZ := OZ.new (s := s) k20 m2 So Sp po pp m1
                    subst eo ep
                    obtain ⟨wo, hwo⟩ : ∃ wo, w20.alloc (.cells #[.bool s, .slice ao lo.length co, .slice ap lp.length cp] 47) = wo := ⟨_, rfl⟩
                    rw [hwo] at HZ
                    have HZ1 : Hid (OZ wy w20.heap.size s (.slice ao lo.length co) (.slice ap lp.length cp) lo lp wo) := HZ
                    obtain ⟨z0, z1, z2⟩ := HZ.bx.cells
                    clear Nn Nd So Sp po pp mo mp qo qp un ud hO HZ
                    go_wp2_with fail
                    try rw [hwo]
                    clear hwo z0 z1 z2
                    go_loopw [208] (fun i wr => ∃ (j : Nat) (l' : List Nat), i = .int .i64 (j : Int) ∧ j ≤ lo.length ∧ l'.length = lo.length ∧ Hid (OZ wy w20.heap.size s (.slice ao lo.length co) (.slice ap lp.length cp) l' lp wr)) (fun i wr => lo.length - (intOf i).toNat)
                    case atStart => exact ⟨0, lo, rfl, by omega, rfl, HZ1⟩
                    case round =>
                      clear HZ1
                      obtain ⟨j, l', rfl, hj, el, HZ1⟩ := hrel
                      obtain ⟨z0, z1, z2⟩ := HZ1.out.bx.cells
                      by_cases hlt : j < lo.length
                      · have hltc : (j : Int) < (lo.length : Int) := by omega
                        obtain ⟨g, cap, ev, gc, ck, fk, hnx⟩ := HZ1.out.atN j (by omega)
                        simp only [Value.slice.injEq] at ev
                        obtain ⟨rfl, -, rfl⟩ := ev
                        have HZ2 : Hid (OZ wy w20.heap.size s (.slice (some ⟨g, 0, none⟩) lo.length co) (.slice ap lp.length cp) (l'.set j 5) lp (wr.setCell ⟨g, j, none⟩ (.int .u32 (5 : Nat)))) := hnx 5
                        have HJ1 : Hid (j < lo.length) := hlt
                        have HE : Hid (l'.length = lo.length) := el
                        generalize l'.getD j 0 = old at ck
                        clear hlt hnx gc el
                        go_wp2_with fail
                        go_roundw
                        case rel => exact ⟨j + 1, l'.set j 5, by go_num, HJ1.out, by rw [List.length_set]; exact HE.out, HZ2⟩
                        case measure => have := HJ1.out; simp [intOf]; omega
                      · have hltc : ¬ (j : Int) < (lo.length : Int) := by omega
                        have HE : Hid (l'.length = lo.length) := el
                        clear hlt hj el
                        go_wp2_with fail
                        clear z0 z1 z2
                        go_loopw [219] (fun i wr => ∃ (j : Nat) (l2 : List Nat), i = .int .i64 (j : Int) ∧ j ≤ lp.length ∧ l2.length = lp.length ∧ Hid (OZ wy w20.heap.size s (.slice ao lo.length co) (.slice ap lp.length cp) l' l2 wr)) (fun i wr => lp.length - (intOf i).toNat)
                        case atStart => exact ⟨0, lp, rfl, by omega, rfl, HZ1⟩
                        case round =>
                          clear HZ1
                          obtain ⟨j, l2, rfl, hj, el, HZ1⟩ := hrel
                          obtain ⟨z0, z1, z2⟩ := HZ1.out.bx.cells
                          by_cases hlt : j < lp.length
                          · have hltc : (j : Int) < (lp.length : Int) := by omega
                            obtain ⟨g, cap, ev, gc, ck, fk, hnx⟩ := HZ1.out.atD j (by omega)
                            simp only [Value.slice.injEq] at ev
                            obtain ⟨rfl, -, rfl⟩ := ev
                            have HZ2 : Hid (OZ wy w20.heap.size s (.slice ao lo.length co) (.slice (some ⟨g, 0, none⟩) lp.length cp) l' (l2.set j 6) (wr.setCell ⟨g, j, none⟩ (.int .u32 (6 : Nat)))) := hnx 6
                            have HJ1 : Hid (j < lp.length) := hlt
                            have HE2 : Hid (l2.length = lp.length) := el
                            generalize l2.getD j 0 = old at ck
                            clear hlt hnx gc el
                            go_wp2_with fail
                            go_roundw
                            case rel => exact ⟨j + 1, l2.set j 6, by go_num, HJ1.out, by rw [List.length_set]; exact HE2.out, HZ2⟩
                            case measure => have := HJ1.out; simp [intOf]; omega
                          · have hltc : ¬ (j : Int) < (lp.length : Int) := by omega
                            have HE2 : Hid (l2.length = lp.length) := el
                            clear hlt hj el
                            have Hn : Hid (Sl wr (.slice ao lo.length co) l') := HZ1.out.sn
                            have bn : l'.length + 4 ≤ 35184372088832 := by have := HE.out; omega
                            have bp : l2.length + 4 ≤ 35184372088832 := by have := HE2.out; omega
                            have e4 : (l' ++ [1, 2, 3, 4]).length = l'.length + 4 := by simp
                            have e5 : (l2 ++ [1, 2, 3, 4]).length = l2.length + 4 := by simp
                            have n1 : w18.heap.size ≠ w20.heap.size := by
                              have q1 := (Array.getElem?_eq_some_iff.1 By).1
                              have q2 := HZ1.out.hG
                              omega
                            have tk1 : True := trivial
                            go_wp2_with (first
                              | (at_builtin; have _t := tk1; clear tk1; refine wpList_appS [1, 2, 3, 4] 4 rfl _ _ rfl l' (.slice ao lo.length co) ?_ Hn.out rfl (by omega) bn ?_ ?_; rotate_left 2; intro v' wB hs' hg loc
                                 obtain ⟨bxB, HZ3⟩ := HZ1.out.growN _ v' _ hs' hg loc
                                 obtain ⟨a', c', ev', -⟩ := hs'.shape
                                 rw [e4] at ev'
                                 subst ev'
                                 obtain ⟨p0, p1, p2⟩ := bxB.cells
                                 have f1 := bxB.free 1
                                 have HZ4 : Hid (OZ wy w20.heap.size s (.slice a' (l'.length + 4) c') (.slice ap lp.length cp) (l' ++ [1, 2, 3, 4]) l2 (wB.setCell ⟨w20.heap.size, 1, none⟩ (.slice a' (l'.length + 4) c'))) := HZ3
                                 obtain ⟨s0, s1, s2⟩ := HZ3.bx.cells
                                 have Hd : Hid (Sl (wB.setCell ⟨w20.heap.size, 1, none⟩ (.slice a' (l'.length + 4) c')) (.slice ap lp.length cp) l2) := HZ3.sd
                                 clear HZ3 hs' hg loc bxB z0 z1 z2
                                 have tk2 : True := trivial)
                              | (at_builtin; have _t := tk2; clear tk2; refine wpList_appS [1, 2, 3, 4] 4 rfl _ _ rfl l2 (.slice ap lp.length cp) ?_ Hd.out rfl (by omega) bp ?_ ?_; rotate_left 2; intro v' wD hs' hg loc
                                 obtain ⟨bxD, HZ5⟩ := HZ4.out.growD _ v' _ hs' hg loc
                                 obtain ⟨a6, c6', ev', -⟩ := hs'.shape
                                 rw [e5] at ev'
                                 subst ev'
                                 obtain ⟨u0, u1, u2⟩ := bxD.cells
                                 have f2 := bxD.free 2
                                 have HK5 : Hid (Keep wy (wD.setCell ⟨w20.heap.size, 2, none⟩ (.slice a6 (l2.length + 4) c6'))) := HZ5.kp
                                 obtain ⟨y0', y1', y2'⟩ := (By.keep HZ5.kp).cells
                                 clear HZ5 hs' hg loc bxD p0 p1 p2 s0 s1 s2 f1 y0 y1 y2))
                            generalize wD.setCell ⟨w20.heap.size, 2, none⟩ (.slice a6 (l2.length + 4) c6') = wF at HK5 y0' y1' y2' ⊢
                            have KF : Keep w18 wF := ky.trans HK5.out
                            have hO2 := Over_form ng ay az cy cz ln ld wF gy gz (by omega) (by omega) (ry.keep KF) (rz.keep KF) hmn hmd
                            refine hO2.mono ?_
                            rintro e w22 ⟨an1, cn1, ln1, ad1, cd1, ld1, rfl, h1, i1, h2, i2, h3, i3, h4, i4, h5, i5, k22⟩
                            have K22 := KF.trans k22
                            obtain ⟨w23, hw23⟩ : ∃ w23, w22.alloc (.cells #[.bool (RS ng (val ln) (val ld)), .slice an1 ln1.length cn1, .slice ad1 ld1.length cd1] 47) = w23 := ⟨_, rfl⟩
                            have k23 : Keep w22 w23 := by rw [← hw23]; exact (Keep.refl w22).alloc _
                            have B23 : Box w23 w22.heap.size (.bool (RS ng (val ln) (val ld))) (.slice an1 ln1.length cn1) (.slice ad1 ld1.length cd1) := by rw [← hw23]; exact Box.new w22 _ _ _
                            have K23 := K22.trans k23
                            obtain ⟨x0, x1, x2⟩ := (HBx.out.keep K23).cells
                            have hO3 := rOver_form ng an ad cn cd ln ld w23 gn gd (by omega) (by omega) (hrn.keep (K18.trans K23)) (hrd.keep (K18.trans K23)) hmn hmd
                            obtain ⟨sg, hsg⟩ : ∃ sg, RS ng (val ln) (val ld) = sg := ⟨_, rfl⟩
                            obtain ⟨EE, hEE⟩ : ∃ EE, RE (val ld) = EE := ⟨_, rfl⟩
                            unfold RatF at hO3
                            rw [hsg] at hw23 B23 hO3 ⊢
                            rw [hEE] at hO3 ⊢
                            clear hsg hEE hO2 HZ1 HZ4 Hn Hd y0' y1' y2' u0 u1 u2 f2
                            go_wp2_with fail
                            try rw [hw23]
                            clear hw23
                            refine hO3.mono ?_
                            rintro e w24 ⟨an2, cn2, ln2, ad2, cd2, ld2, rfl, t1, s1, t2, s2, t3, s3, t4, s4, t5, s5, k24⟩
                            obtain rfl : ln1 = ln2 := val_inj h3 t3 h4 t4 (h5.trans t5.symm)
                            obtain rfl : ld1 = ld2 := val_inj i3 s3 i4 s4 (i5.trans s5.symm)
                            have jn1 : ln1.length ≤ 70368744177664 := by
                              have : ln1.length ≤ ln.length := len_le_of_val h4 hmn (by rw [h5]; unfold RN; split; omega; exact Nat.div_le_self _ _)
                              omega
                            have jd1 : ld1.length ≤ 70368744177664 := by
                              have : ld1.length ≤ ld.length := len_le_of_val i4 hmd (by rw [i5]; unfold RD; split; omega; exact Nat.div_le_self _ _)
                              omega
                            obtain ⟨w25, hw25⟩ : ∃ w25, w24.alloc (.cells #[.bool sg, .slice an2 ln1.length cn2, .slice ad2 ld1.length cd2] 47) = w25 := ⟨_, rfl⟩
                            have k25 : Keep w24 w25 := by rw [← hw25]; exact (Keep.refl w24).alloc _
                            have B25 : Box w25 w24.heap.size (.bool sg) (.slice an2 ln1.length cn2) (.slice ad2 ld1.length cd2) := by rw [← hw25]; exact Box.new w24 _ _ _
                            have k45 := k24.trans k25
                            have B35 := B23.keep k45
                            obtain ⟨b0, b1, b2⟩ := B25.cells
                            obtain ⟨d0, d1, d2⟩ := B35.cells
                            have hAl := Alike_same sg an1 ad1 an2 ad2 cn1 cd1 cn2 cd2 ln1 ld1 w25 jn1 jd1 ((h2.keep k23).keep k45) ((i2.keep k23).keep k45) (t2.keep k25) (s2.keep k25)
                            clear x0 x1 x2 h1 i1 h2 i2 h3 i3 h4 i4 h5 i5 t1 s1 t2 s2 t3 s3 t4 s4 t5 s5 hO3 jn1 jd1
                            go_wp2_with fail
                            try rw [hw25]
                            clear hw25
                            refine hAl.mono ?_
                            rintro e w26 ⟨rfl, k26⟩
                            have K26 : Keep w18 w26 := (K23.trans k45).trans k26
                            have KY : Keep wy w26 := ((((HK5.out.trans k22).trans k23)).trans k45).trans k26
                            obtain ⟨x0, x1, x2⟩ := (HBx.out.keep K26).cells
                            obtain ⟨y0, y1, y2⟩ := (By.keep KY).cells
                            have KW26 := K18.trans K26
                            have hSn := Same_any ay an cy cn ln w26 (by omega) (ry.keep K26) (hrn.keep KW26)
                            clear b0 b1 b2 d0 d1 d2
                            go_wp2_with fail
                            refine hSn.mono ?_
                            rintro e w27 ⟨rfl, d27⟩
                            have k27 := d27.keep
                            obtain ⟨x0', x1', x2'⟩ := ((HBx.out.keep K26).keep k27).cells
                            obtain ⟨y0', y1', y2'⟩ := ((By.keep KY).keep k27).cells
                            have hSd := Same_any az ad cz cd ld w27 (by omega) ((rz.keep K26).keep k27) ((hrd.keep KW26).keep k27)
                            clear x0 x1 x2 y0 y1 y2
                            go_wp2_with fail
                            refine hSd.mono ?_
                            rintro e w28 ⟨rfl, d28⟩
                            go_wp2_with fail
                            go_ret
                            exact ⟨rfl, (KW26.trans k27).trans d28.keep⟩
end Go.Proofs.YtbjidpooociamaaDoor
