import Derived.Test.YtpdjpjkieafnbaaDoorTQ4
set_option linter.unusedVariables false
set_option linter.unusedSimpArgs false
namespace Go.Proofs.YtpdjpjkieafnbaaDoor.Li
open Go.RowKit Lb Nr
theorem Box.set0 {w : World} {g : Nat} {x y z : Value} (h : Box w g x y z) (x' : Value) : Box (w.setCell ⟨g, 0, none⟩ x') g x' y z := by
  have h1 := heap_setCell_same w g 0 _ 38 x' h
  unfold Box
  rw [h1]
  simp
theorem Box.set1 {w : World} {g : Nat} {x y z : Value} (h : Box w g x y z) (y' : Value) : Box (w.setCell ⟨g, 1, none⟩ y') g x y' z := by
  have h1 := heap_setCell_same w g 1 _ 38 y' h
  unfold Box
  rw [h1]
  simp
theorem Box.set2 {w : World} {g : Nat} {x y z : Value} (h : Box w g x y z) (z' : Value) : Box (w.setCell ⟨g, 2, none⟩ z') g x y z' := by
  have h1 := heap_setCell_same w g 2 _ 38 z' h
  unfold Box
  rw [h1]
  simp
set_option maxRecDepth 100000 in
set_option maxHeartbeats 4000000 in
/-- A row of digits. -/
theorem quot_ok (l : List UInt8) (bh pw : Int) (w : World) (hd : allD l) (h0 : l ≠ []) (hl : l.length ≤ 140737488355328) :
    Calls Tryd.prog 3 #[.string ⟨l.toArray⟩, .int .i64 bh, .int .i64 pw] w fun e w' => e = .returned (.bool true) ∧ Keep w w' := by
  have hH := fun wx => Read_half wx
  have hF := fun wx => From_lv 12 wx (by omega)
  have hP := fun wx v hv => Print_from 12 (by omega) wx v hv
  have e12 : dD 12 = [49, 50] := by
    rw [dD_step (by omega), dD_small (by omega)]
    rfl
  rw [e12] at hP
  have hR := fun wx => Read_ok8 l wx hd h0 hl
  have hor := ord_half
  have hsz : (ByteArray.mk l.toArray).size = l.length := sz_mk l
  go_enter Tryd.func3, Tryd.ntmps3
  go_wp2_with fail
  refine (hH _).mono ?_
  rintro e w1 ⟨rfl, k1⟩
  go_wp2_with fail
  refine (hF _).mono ?_
  rintro e w2 ⟨v, rfl, hv, k2⟩
  go_wp2_with fail
  refine (hP _ v hv).mono ?_
  rintro e w3 ⟨rfl, k3⟩
  go_wp2_with fail
  refine (hR _).mono ?_
  rintro e w4 ⟨vn, rfl, hvn, k4⟩
  have K4 : Hid (Keep w w4) := ((k1.trans k2).trans k3).trans k4
  have HVN : Hid (l.length ≤ 4095 → Lv w4 vn (nat l) 2001) := hvn
  have HD : Hid (allD l) := hd
  clear k1 k2 k3 k4 hv hvn hH hF hP hR hor e12 hd h0
  by_cases c1 : bh < 0
  · have d1 : decide (bh < 0) = true := decide_eq_true c1
    go_wp2_with fail
    go_ret
    exact ⟨rfl, K4.out⟩
  have d1 : decide (bh < 0) = false := decide_eq_false c1
  by_cases c2 : (l.length : Int) ≤ bh
  · have d2 : decide ((l.length : Int) ≤ bh) = true := decide_eq_true c2
    go_wp2_with fail
    go_ret
    exact ⟨rfl, K4.out⟩
  have d2 : decide ((l.length : Int) ≤ bh) = false := decide_eq_false c2
  by_cases c3 : pw < -1073741824
  · have d3 : decide (pw < -1073741824) = true := decide_eq_true c3
    go_wp2_with fail
    go_ret
    exact ⟨rfl, K4.out⟩
  have d3 : decide (pw < -1073741824) = false := decide_eq_false c3
  by_cases c4 : 1073741824 < pw
  · have d4 : decide (1073741824 < pw) = true := decide_eq_true c4
    go_wp2_with fail
    go_ret
    exact ⟨rfl, K4.out⟩
  have d4 : decide (1073741824 < pw) = false := decide_eq_false c4
  obtain ⟨b, hb⟩ : ∃ b : Nat, bh = (b : Int) := ⟨bh.toNat, by omega⟩
  subst hb
  have hbl : b < l.length := by omega
  obtain ⟨j, hj⟩ : ∃ j, l.length - b = j := ⟨_, rfl⟩
  have hjI : (l.length : Int) - (b : Int) = (j : Int) := by omega
  have hwj : IntKind.i64.wrap ((l.length : Int) - (b : Int)) = (j : Int) := by rw [hjI, IntWalk.i64_left]; exact IntWalk.wrap64_in _ (by omega)
  have hup : ∀ wx, (Instr.slice 9 (.string ⟨l.toArray⟩) none (some (.int .i64 (j : Int))) none).run Tryd.prog wx = .ok (.string ⟨(l.take j).toArray⟩) wx := fun wx => run_upto l j (by omega) wx
  have hfr : ∀ wx, (Instr.slice 9 (.string ⟨l.toArray⟩) (some (.int .i64 (j : Int))) none none).run Tryd.prog wx = .ok (.string ⟨(l.drop j).toArray⟩) wx := fun wx => run_from l j (by omega) wx
  have hT0 : qT0 l b = if 0 < b then l.take j ++ 46 :: l.drop j else l := by unfold qT0; rw [hj]
  have hTA : (l.take j).length = j := by rw [List.length_take]; omega
  have hTB : (l.drop j).length = l.length - j := List.length_drop ..
  have hct1 : ByteArray.mk (l.take j).toArray ++ ⟨#[46]⟩ = ⟨(l.take j ++ [46]).toArray⟩ := catB (l.take j) [46]
  have hct2 := catB (l.take j ++ [46]) (l.drop j)
  have hq0 := qT0_len l b
  obtain ⟨TA, hTAe⟩ : ∃ TA, l.take j = TA := ⟨_, rfl⟩
  obtain ⟨TB, hTBe⟩ : ∃ TB, l.drop j = TB := ⟨_, rfl⟩
  obtain ⟨T0, hT0e⟩ : ∃ T0, qT0 l b = T0 := ⟨_, rfl⟩
  rw [hTAe] at hup hT0 hTA hct1 hct2
  rw [hTBe] at hfr hT0 hTB hct2
  rw [hT0e] at hT0 hq0
  have szA : (ByteArray.mk TA.toArray).size = TA.length := sz_mk TA
  have szB : (ByteArray.mk TB.toArray).size = TB.length := sz_mk TB
  have szC : (ByteArray.mk (TA ++ [46]).toArray).size = TA.length + 1 := by rw [sz_mk]; simp
  have HT0 : Hid (T0 = if 0 < b then TA ++ 46 :: TB else l) := hT0
  have HT0e : Hid (qT0 l b = T0) := hT0e
  clear hTAe hTBe hT0e hT0
  go_upto_if 85 with fail
  go_cut [15] from 85 to 99 (fun s15 wx => s15 = .string ⟨T0.toArray⟩ ∧ Keep w4 wx)
  case first =>
    by_cases hb0 : 0 < b
    · have db : decide ((0 : Int) < (b : Int)) = true := decide_eq_true (by omega)
      have HT1 : Hid ((TA ++ [46]) ++ TB = T0) := by unfold Hid; rw [HT0.out, if_pos hb0]; simp
      go_wp2_with fail
      go_quiet (fail)
      go_wp2_with fail
      go_meet
      case rel => exact ⟨by rw [← HT1.out]; simp, by first | exact Keep.refl _ | exact (Keep.refl _).drew | exact (Keep.refl _).drewN _⟩
    · have db : decide ((0 : Int) < (b : Int)) = false := decide_eq_false (by omega)
      have HT1 : Hid (l = T0) := by unfold Hid; rw [HT0.out, if_neg hb0]
      go_wp2_with fail
      go_meet
      case rel => exact ⟨by rw [← HT1.out], Keep.refl _⟩
  case rest =>
    obtain ⟨rfl, k5⟩ := hcut
    obtain ⟨w5, rfl⟩ : ∃ w5, w5 = wc := ⟨_, rfl⟩
    have hNm := fun wx => number_any pw wx (by omega) (by omega)
    have hnl := nmT_len pw (by omega) (by omega)
    have hc1 : ByteArray.mk T0.toArray ++ ⟨#[101]⟩ = ⟨(T0 ++ [101]).toArray⟩ := catB T0 [101]
    have hc2 := catB (T0 ++ [101]) (nmT pw)
    have hTe : (T0 ++ [101]) ++ nmT pw = qT l b pw := by unfold qT; rw [HT0e.out]
    rw [hTe] at hc2
    have hTl := qT_len l b pw
    have szT0 : (ByteArray.mk T0.toArray).size = T0.length := sz_mk T0
    have szT1 : (ByteArray.mk (T0 ++ [101]).toArray).size = T0.length + 1 := by rw [sz_mk]; simp
    have szN : (ByteArray.mk (nmT pw).toArray).size = (nmT pw).length := sz_mk _
    have szT : (ByteArray.mk (qT l b pw).toArray).size = (qT l b pw).length := sz_mk _
    have hqlen : (qT l b pw).length ≤ 140737488355500 := by rw [← hTe, List.length_append, List.length_append]; simp; omega
    obtain ⟨p, hp⟩ : ∃ p : Int, pw - (b : Int) = p := ⟨_, rfl⟩
    have hpb : -140738562097152 ≤ p ∧ p ≤ 1073741824 := by omega
    have hwp : IntKind.i64.wrap (pw - (b : Int)) = p := by rw [hp, IntWalk.i64_left]; exact IntWalk.wrap64_in _ (by omega)
    have hRd := fun (ng : Bool) wx (h1 : -1048576 ≤ pw) (h2 : pw ≤ 1048576) (hl2 : (qT l b pw).length ≤ 4095) => qT_read l b pw HD.out hbl h1 h2 ng hl2 wx
    rw [hp] at hRd
    obtain ⟨N, hN⟩ : ∃ N, nmT pw = N := ⟨_, rfl⟩
    obtain ⟨T, hT⟩ : ∃ T, qT l b pw = T := ⟨_, rfl⟩
    rw [hN] at hNm hnl hc2 szN
    rw [hT] at hc2 hTl szT hqlen hRd
    have HRd : Hid _ := hRd
    have K5 : Hid (Keep w w5) := K4.out.trans k5
    have HVN5 : Hid (l.length ≤ 4095 → Lv w5 vn (nat l) 2001) := fun h => (HVN.out h).keep k5
    have HP : Hid (pw - (b : Int) = p) := hp
    clear hTe hN hT hRd hup hfr hct1 hct2 szA szB szC hTA hTB HT0 HT0e k5 HVN K4 HD hwj hjI hj
    obtain ⟨U, hU⟩ : ∃ U : Nat, p.natAbs = U := ⟨_, rfl⟩
    go_wp2_with fail
    refine (hNm _).mono ?_
    rintro e w6 ⟨rfl, k6⟩
    have K6 : Hid (Keep w w6) := K5.out.trans k6
    have HVN6 : Hid (l.length ≤ 4095 → Lv w6 vn (nat l) 2001) := fun h => (HVN5.out h).keep k6
    have hPt := fun wx v h => Pow_ten U v wx h
    clear k6 K5 HVN5 hNm
    by_cases hp0 : p < 0
    · have dp : decide (p < 0) = true := decide_eq_true hp0
      have hwn : IntKind.i64.wrap (-p) = (U : Int) := by rw [show -p = (U : Int) by omega, IntWalk.i64_left]; exact IntWalk.wrap64_in _ (by omega)
      have hwn2 : -p = (U : Int) := by omega
      go_wp2_with fail
      refine (hPt _ _ (lv_ten w6)).mono ?_
      rintro e w7 ⟨vt, E, rfl, hE, k7⟩
      have k67 : Keep w6 w7 := ((Keep.refl w6).alloc _).trans k7
      have K7 : Hid (Keep w w7) := K6.out.trans k67
      by_cases hE0 : E = 0
      · subst hE0
        obtain ⟨hu, hvt⟩ := hE rfl
        by_cases hs : T.length ≤ 4095
        · have ds : decide ((4095 : Int) < (T.length : Int)) = false := decide_eq_false (by omega)
          have hLn := (HVN6.out (by omega)).keep k67
          obtain ⟨NL, hNL⟩ : ∃ NL, nat l = NL := ⟨_, rfl⟩
          obtain ⟨TU, hTU⟩ : ∃ TU, 10 ^ U = TU := ⟨_, rfl⟩
          have hTpos : 0 < TU := by rw [← hTU]; exact Nat.pow_pos (by omega)
          have hRf := fun wx => HRd.out false wx (by have := HP.out; omega) (by have := HP.out; omega) hs
          have hRt := fun wx => HRd.out true wx (by have := HP.out; omega) (by have := HP.out; omega) hs
          have ef : ((if false then [45] else []) ++ T : List UInt8) = T := rfl
          have et : ((if true then [45] else []) ++ T : List UInt8) = 45 :: T := rfl
          rw [ef] at hRf
          rw [et] at hRt
          rw [hNL] at hRf hRt hLn
          have hpp : p.toNat = 0 := by omega
          have hpm : (-p).toNat = U := by omega
          rw [hpp, hpm, Nat.pow_zero, Nat.mul_one] at hRf hRt
          rw [hTU] at hvt hRf hRt
          obtain ⟨K, hK⟩ : ∃ K, K = 4050 := ⟨_, rfl⟩
          have hprod : NL * TU < 4294967296 ^ K := by
            have q1 := hLn.lt
            have q2 := hvt.lt
            obtain ⟨K1, hK1⟩ : ∃ K1, K1 = 2001 := ⟨_, rfl⟩
            obtain ⟨K2, hK2⟩ : ∃ K2, K2 = 2049 := ⟨_, rfl⟩
            rw [← hK1] at q1
            rw [← hK2] at q2
            rw [show K = K1 + K2 by omega, Nat.pow_add]
            exact Nat.mul_lt_mul_of_lt_of_le q1 (Nat.le_of_lt q2) (Nat.pow_pos (by omega))
          have hMu := Mul_lv vn vt NL TU 2049 K w7 (hLn.more (by omega)) hvt (by omega) hprod
          have hFr1 := fun wx => From_lv 1 wx (by omega)
          have hb34 := fun x wx => f64bits x wx
          have hcm : ByteArray.mk #[45] ++ ByteArray.mk T.toArray = ⟨(45 :: T).toArray⟩ := catB [45] T
          have hor := fun x h => or_sign x h
          have HLn : Hid (Lv w7 vn NL 2001) := hLn
          have Hvt : Hid (Lv w7 vt TU 2049) := hvt
          have HRf : Hid _ := hRf
          have HRt : Hid _ := hRt
          have HK : Hid (K = 4050) := hK
          obtain ⟨an, cn, ln, rfl, -⟩ := hLn
          obtain ⟨au, cu, lu, rfl, -⟩ := hvt
          clear hRf hRt hNL hTU hE hprod hK HRd HVN6 hPt ef et k7 k67
          go_wp2_with fail
          refine hMu.mono ?_
          rintro e w8 ⟨vm, rfl, hvm, k8⟩
          have HVM : Hid (Lv w8 vm (NL * TU) K) := hvm
          obtain ⟨am, cm, lm, rfl, -⟩ := hvm
          go_wp2_with fail
          refine (hFr1 _).mono ?_
          rintro e w9 ⟨v1, rfl, hv1, k9⟩
          have HV1 : Hid (Lv w9 v1 1 2) := hv1
          obtain ⟨a1', c1', l1', rfl, -⟩ := hv1
          have k79 : Keep w7 w9 := k8.trans k9
          obtain ⟨wa, hwa⟩ : ∃ wa, w9.alloc (.cells #[.bool false, .slice am lm.length cm, .slice a1' l1'.length c1'] 38) = wa := ⟨_, rfl⟩
          have Ba : Box wa w9.heap.size (.bool false) (.slice am lm.length cm) (.slice a1' l1'.length c1') := by rw [← hwa]; exact Box.new w9 _ _ _
          have ka : Keep w7 wa := by rw [← hwa]; exact k79.alloc _
          obtain ⟨a0, a1, a2⟩ := Ba.cells
          have fa0 := Ba.free 0
          have fa1 := Ba.free 1
          have fa2 := Ba.free 2
          obtain ⟨wS, hwS⟩ : ∃ wS, ((wa.setCell ⟨w9.heap.size, 0, none⟩ (.bool false)).setCell ⟨w9.heap.size, 1, none⟩ (.slice an ln.length cn)).setCell ⟨w9.heap.size, 2, none⟩ (.slice au lu.length cu) = wS := ⟨_, rfl⟩
          have BS : Box wS w9.heap.size (.bool false) (.slice an ln.length cn) (.slice au lu.length cu) := by rw [← hwS]; exact ((Ba.set0 _).set1 _).set2 _
          have kS : Keep w7 wS := by
            rw [← hwS]
            exact ((ka.setCell (p := ⟨w9.heap.size, 0, none⟩) k79.le _).setCell (p := ⟨w9.heap.size, 1, none⟩) k79.le _).setCell (p := ⟨w9.heap.size, 2, none⟩) k79.le _
          have K9 : Hid (Keep w wS) := K7.out.trans kS
          have hRf := HRf.out
          have hRt := HRt.out
          have hPN := fun wx (kx : Keep wS wx) => pN_some false (.slice an ln.length cn) (.slice au lu.length cu) NL TU 2049 wx (((HLn.out.more (by omega)).keep kS).keep kx) ((Hvt.out.keep kS).keep kx) (by have := HK.out; omega) hTpos
          clear HRf HRt
          go_wp2_with fail
          refine (hRf _).mono ?_
          rintro e wb ⟨x0, rfl, n0, kb⟩
          obtain ⟨g0, g1, g2⟩ := (BS.keep kb).cells
          have N0 : Hid (NB NL TU x0) := n0
          obtain ⟨y0, hy0⟩ : ∃ y0, x0 + sg false = y0 := ⟨_, rfl⟩
          rw [hy0]
          have Y0 : Hid (x0 + sg false = y0) := hy0
          clear n0 hy0
          go_wp2_with fail
          refine (hPN _ kb).mono ?_
          rintro e wd ⟨x1, rfl, m1, m2, kd⟩
          have hx1 : x1 = y0 := by
            have h1 : NB NL TU x1 := by
              refine ⟨fun h => m1 (by simpa using h), fun h E hE => ?_⟩
              have := m2 (by simpa using h) E (by simpa using hE)
              rw [this]
              have e0 : sg false = 0 := rfl
              rw [e0, Nat.add_zero]
              rfl
            have h2 := NB.one hTpos h1 N0.out
            have h3 := Y0.out
            have e0 : sg false = 0 := rfl
            rw [e0, Nat.add_zero] at h3
            rw [h2, h3]
          subst hx1
          have K10 : Hid (Keep w wd) := (K9.out.trans kb).trans kd
          clear m1 m2 g0 g1 g2 hPN
          have b34 := fun wx => hb34 x1 wx
          go_wp2_with fail
          refine (hRt _).mono ?_
          rintro e we ⟨x2, rfl, n2, ke⟩
          have hx2 : x2 = x0 := NB.one hTpos n2 N0.out
          have hle := N0.out.le hTpos
          obtain ⟨y2, hy2⟩ : ∃ y2, x2 + sg true = y2 := ⟨_, rfl⟩
          have hx0 : x0 = x1 := by have h3 := Y0.out; have e0 : sg false = 0 := rfl; rw [e0, Nat.add_zero] at h3; exact h3
          have hor1 := hor x1 (by omega)
          have hy3 : x1 + 9223372036854775808 = y2 := by rw [← hy2, hx2, hx0]; rfl
          rw [hy3] at hor1
          have b35 := fun wx => hb34 y2 wx
          rw [hy2]
          clear hx0 hy2 hy3 hle hx2 n2
          go_wp2_with fail
          go_ret
          exact ⟨rfl, K10.out.trans ke⟩
        · have ds : decide ((4095 : Int) < (T.length : Int)) = true := decide_eq_true (by omega)
          clear hE hvt
          go_wp2_with fail
          go_ret
          exact ⟨rfl, K7.out⟩
      · have hne : (E != 0) = true := by simpa using hE0
        clear hE
        go_wp2_with fail
        go_ret
        exact ⟨rfl, K7.out⟩
    · have dp : decide (p < 0) = false := decide_eq_false hp0
      have hPt' : ∀ wx v, Lv wx v 10 2 → Calls Tryd.prog 9 #[v, .int .i64 p] wx fun e w' => ∃ (v' : Value) (E : Int), e = .returned (.tuple #[v', .int .i64 E]) ∧ (E = 0 → U ≤ 16384 ∧ Lv w' v' (10 ^ U) 2049) ∧ Keep wx w' := by
        intro wx v h
        rw [show p = (U : Int) by omega]
        exact hPt wx v h
      have hPt := hPt'
      clear hPt'
      go_wp2_with fail
      refine (hPt _ _ (lv_ten w6)).mono ?_
      rintro e w7 ⟨vt, E, rfl, hE, k7⟩
      have k67 : Keep w6 w7 := ((Keep.refl w6).alloc _).trans k7
      have K7 : Hid (Keep w w7) := K6.out.trans k67
      by_cases hE0 : E = 0
      · subst hE0
        obtain ⟨hu, hvt⟩ := hE rfl
        by_cases hs : T.length ≤ 4095
        · have ds : decide ((4095 : Int) < (T.length : Int)) = false := decide_eq_false (by omega)
          have hLn := (HVN6.out (by omega)).keep k67
          obtain ⟨NL, hNL⟩ : ∃ NL, nat l = NL := ⟨_, rfl⟩
          obtain ⟨TU, hTU⟩ : ∃ TU, 10 ^ U = TU := ⟨_, rfl⟩
          have hTpos : 0 < TU := by rw [← hTU]; exact Nat.pow_pos (by omega)
          have hRf := fun wx => HRd.out false wx (by have := HP.out; omega) (by have := HP.out; omega) hs
          have hRt := fun wx => HRd.out true wx (by have := HP.out; omega) (by have := HP.out; omega) hs
          have ef : ((if false then [45] else []) ++ T : List UInt8) = T := rfl
          have et : ((if true then [45] else []) ++ T : List UInt8) = 45 :: T := rfl
          rw [ef] at hRf
          rw [et] at hRt
          rw [hNL] at hRf hRt hLn
          have hpp : p.toNat = U := by omega
          have hpm : (-p).toNat = 0 := by omega
          rw [hpp, hpm, Nat.pow_zero] at hRf hRt
          rw [hTU] at hvt hRf hRt
          obtain ⟨K, hK⟩ : ∃ K, K = 4050 := ⟨_, rfl⟩
          have hprod : NL * TU < 4294967296 ^ K := by
            have q1 := hLn.lt
            have q2 := hvt.lt
            obtain ⟨K1, hK1⟩ : ∃ K1, K1 = 2001 := ⟨_, rfl⟩
            obtain ⟨K2, hK2⟩ : ∃ K2, K2 = 2049 := ⟨_, rfl⟩
            rw [← hK1] at q1
            rw [← hK2] at q2
            rw [show K = K1 + K2 by omega, Nat.pow_add]
            exact Nat.mul_lt_mul_of_lt_of_le q1 (Nat.le_of_lt q2) (Nat.pow_pos (by omega))
          have hMu := Mul_lv vn vt NL TU 2049 K w7 (hLn.more (by omega)) hvt (by omega) hprod
          have hFr1 := fun wx => From_lv 1 wx (by omega)
          have hb34 := fun x wx => f64bits x wx
          have hcm : ByteArray.mk #[45] ++ ByteArray.mk T.toArray = ⟨(45 :: T).toArray⟩ := catB [45] T
          have hor := fun x h => or_sign x h
          have HLn : Hid (Lv w7 vn NL 2001) := hLn
          have Hvt : Hid (Lv w7 vt TU 2049) := hvt
          have HRf : Hid _ := hRf
          have HRt : Hid _ := hRt
          have HK : Hid (K = 4050) := hK
          obtain ⟨an, cn, ln, rfl, -⟩ := hLn
          obtain ⟨au, cu, lu, rfl, -⟩ := hvt
          clear hRf hRt hNL hTU hE hprod hK HRd HVN6 hPt ef et k7 k67
          go_wp2_with fail
          refine hMu.mono ?_
          rintro e w8 ⟨vm, rfl, hvm, k8⟩
          have HVM : Hid (Lv w8 vm (NL * TU) K) := hvm
          obtain ⟨am, cm, lm, rfl, -⟩ := hvm
          go_wp2_with fail
          refine (hFr1 _).mono ?_
          rintro e w9 ⟨v1, rfl, hv1, k9⟩
          have HV1 : Hid (Lv w9 v1 1 2) := hv1
          obtain ⟨a1', c1', l1', rfl, -⟩ := hv1
          have k79 : Keep w7 w9 := k8.trans k9
          obtain ⟨wa, hwa⟩ : ∃ wa, w9.alloc (.cells #[.bool false, .slice am lm.length cm, .slice a1' l1'.length c1'] 38) = wa := ⟨_, rfl⟩
          have Ba : Box wa w9.heap.size (.bool false) (.slice am lm.length cm) (.slice a1' l1'.length c1') := by rw [← hwa]; exact Box.new w9 _ _ _
          have ka : Keep w7 wa := by rw [← hwa]; exact k79.alloc _
          have BS := Ba
          have kS := ka
          have HLm : Hid (Lv wa (.slice am lm.length cm) (NL * TU) K) := by unfold Hid; rw [← hwa]; exact (HVM.out.keep k9).keep ((Keep.refl w9).alloc _)
          have HL1 : Hid (Lv wa (.slice a1' l1'.length c1') 1 2) := by unfold Hid; rw [← hwa]; exact HV1.out.keep ((Keep.refl w9).alloc _)
          have K9 : Hid (Keep w wa) := K7.out.trans kS
          have hRf := HRf.out
          have hRt := HRt.out
          have hPN := fun wx (kx : Keep wa wx) => pN_some false (.slice am lm.length cm) (.slice a1' l1'.length c1') (NL * TU) 1 K wx (HLm.out.keep kx) ((HL1.out.more (by have := HK.out; omega)).keep kx) (by have := HK.out; omega) (by omega)
          clear HRf HRt
          go_wp2_with fail
          refine (hRf _).mono ?_
          rintro e wb ⟨x0, rfl, n0, kb⟩
          obtain ⟨g0, g1, g2⟩ := (BS.keep kb).cells
          have N0 : Hid (NB (NL * TU) 1 x0) := n0
          obtain ⟨y0, hy0⟩ : ∃ y0, x0 + sg false = y0 := ⟨_, rfl⟩
          rw [hy0]
          have Y0 : Hid (x0 + sg false = y0) := hy0
          clear n0 hy0
          go_wp2_with fail
          refine (hPN _ kb).mono ?_
          rintro e wd ⟨x1, rfl, m1, m2, kd⟩
          have hx1 : x1 = y0 := by
            have h1 : NB (NL * TU) 1 x1 := by
              refine ⟨fun h => m1 (by simpa using h), fun h E hE => ?_⟩
              have := m2 (by simpa using h) E (by simpa using hE)
              rw [this]
              have e0 : sg false = 0 := rfl
              rw [e0, Nat.add_zero]
              rfl
            have h2 := NB.one (by omega) h1 N0.out
            have h3 := Y0.out
            have e0 : sg false = 0 := rfl
            rw [e0, Nat.add_zero] at h3
            rw [h2, h3]
          subst hx1
          have K10 : Hid (Keep w wd) := (K9.out.trans kb).trans kd
          clear m1 m2 g0 g1 g2 hPN
          have b34 := fun wx => hb34 x1 wx
          go_wp2_with fail
          refine (hRt _).mono ?_
          rintro e we ⟨x2, rfl, n2, ke⟩
          have hx2 : x2 = x0 := NB.one (by omega) n2 N0.out
          have hle := N0.out.le (by omega)
          obtain ⟨y2, hy2⟩ : ∃ y2, x2 + sg true = y2 := ⟨_, rfl⟩
          have hx0 : x0 = x1 := by have h3 := Y0.out; have e0 : sg false = 0 := rfl; rw [e0, Nat.add_zero] at h3; exact h3
          have hor1 := hor x1 (by omega)
          have hy3 : x1 + 9223372036854775808 = y2 := by rw [← hy2, hx2, hx0]; rfl
          rw [hy3] at hor1
          have b35 := fun wx => hb34 y2 wx
          rw [hy2]
          clear hx0 hy2 hy3 hle hx2 n2
          go_wp2_with fail
          go_ret
          exact ⟨rfl, K10.out.trans ke⟩
        · have ds : decide ((4095 : Int) < (T.length : Int)) = true := decide_eq_true (by omega)
          clear hE hvt
          go_wp2_with fail
          go_ret
          exact ⟨rfl, K7.out⟩
      · have hne : (E != 0) = true := by simpa using hE0
        clear hE
        go_wp2_with fail
        go_ret
        exact ⟨rfl, K7.out⟩
end Go.Proofs.YtpdjpjkieafnbaaDoor.Li
