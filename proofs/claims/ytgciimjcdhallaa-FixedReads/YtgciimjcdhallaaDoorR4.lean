import Derived.Test.YtgciimjcdhallaaDoorR3
set_option linter.unusedVariables false
set_option linter.unusedSimpArgs false
namespace Go.Proofs.YtgciimjcdhallaaDoor
open Go.RowKit Go.Shelf
set_option maxRecDepth 100000 in
set_option maxHeartbeats 4000000 in
theorem rRead_true (s : List UInt8) (w : World) (hs : s.length ≤ 4096) (h0 : 0 < s.length) (hng : pNg s = true) :
    Calls Tryd.prog 5 #[.string ⟨s.toArray⟩] w fun e w' => (∃ V E K, e = .returned (.tuple #[.int .i64 V, .int .i64 E, .int .i64 K]) ∧ RdA s V E K) ∧ Keep w w' := by
  have s1 : (ByteArray.mk s.toArray).size = s.length := sz_mk s
  have hk1 : pK1 s = 1 := by unfold pK1; rw [hng]; rfl
  have hix0 : ∀ wx, (Instr.index 9 (.string ⟨s.toArray⟩) (.int .i64 0)).run Tryd.prog wx = .ok (.int .u8 ((s.getD 0 0).toNat : Nat)) wx := fun wx => run_ix s 0 h0 wx
  have hc : ((s.getD 0 0).toNat == 45) = true := by
    rw [← hng]
    unfold pNg tk
    by_cases q : s.getD 0 0 = 45
    · rw [q]
      simp [h0]
    · have q2 : (s.getD 0 0).toNat ≠ 45 := fun e => q (UInt8.toNat_inj.1 e)
      have q3 : ((s.getD 0 0).toNat == 45) = false := by simpa using q2
      rw [q3]
      symm
      apply decide_eq_false
      rintro ⟨-, a⟩
      exact q (by simpa using a)
  obtain ⟨c0, hc0⟩ : ∃ c0, (s.getD 0 0).toNat = c0 := ⟨_, rfl⟩
  rw [hc0] at hix0 hc
  obtain ⟨L, hL⟩ : ∃ L, s.length = L := ⟨_, rfl⟩
  rw [hL] at s1 hs h0
  have hL1 : ¬ (4096 : Int) < (L : Int) := by omega
  have hL2 : (0 : Int) < (L : Int) := by omega
  have hcI : ((c0 : Int) == 45) = true := by
    rw [← hc]
    by_cases q : c0 = 45
    · subst q; rfl
    · have a1 : (c0 == 45) = false := by simpa using q
      have a2 : ((c0 : Int) == 45) = false := by
        have : ¬ (c0 : Int) = 45 := by omega
        simpa using this
      rw [a1, a2]
  have HNG : Hid (pNg s = true) := hng
  have HK1 : Hid (pK1 s = 1) := hk1
  have HL : Hid (s.length = L) := hL
  clear hng hk1 hc hc0
  go_enter Tryd.func5, Tryd.ntmps5
  go_wp2_with fail
  go_loopg [5] (L) (fun g v5 wx => ∃ m j : Nat, m + g = L + 1 ∧ m = 1 + j ∧ m ≤ L ∧ v5 = .int .i64 (m : Int) ∧ (∀ i, i < j → 1 + i < s.length ∧ isD (s.getD (1 + i) 0) = true) ∧ wx = w)
  case atStart => exact ⟨1, 0, by omega, by omega, by omega, rfl, fun i hi => by omega, rfl⟩
  case round =>
    obtain ⟨m, j, hmg, hmj, hmL, rfl, hdd, rfl⟩ := hrel
    have HD : Hid (∀ i, i < j → 1 + i < s.length ∧ isD (s.getD (1 + i) 0) = true) := hdd
    have HMJ : Hid (m = 1 + j) := hmj
    clear hdd hmj
    by_cases hml : m < L
    · have hml2 : m < s.length := by have := HL.out; omega
      have hix := fun wx => run_ix s m hml2 wx
      obtain ⟨c, hc⟩ : ∃ c, s.getD m 0 = c := ⟨_, rfl⟩
      rw [hc] at hix
      have hI := fun wx => (risDigit_any c wx).mono (fun e w' h => (⟨h.1, h.2.symm⟩ : e = .returned (.bool (isD c)) ∧ wx = w'))
      have hmI : (m : Int) < (L : Int) := by omega
      by_cases hd : isD c = true
      · rw [hd] at hI
        have HD2 : Hid (∀ i, i < j + 1 → 1 + i < s.length ∧ isD (s.getD (1 + i) 0) = true) := by
          intro i hi
          by_cases e : i = j
          · rw [e, ← HMJ.out, hc]; exact ⟨hml2, hd⟩
          · exact HD.out i (by omega)
        clear hc hd hml2
        go_wp2_with (go_at_call 12; refine (hI _).mono ?_; rintro e w2 ⟨rfl, rfl⟩)
        go_roundg (gk - 1)
        case measure => omega
        case rel => exact ⟨m + 1, j + 1, by omega, by have := HMJ.out; omega, by omega, by simp, HD2.out, rfl⟩
      · have hd2 : isD c = false := by simpa using hd
        rw [hd2] at hI
        have HE := dg_all s 1 j (by have := HMJ.out; have := HL.out; omega) HD.out (by rintro ⟨-, a⟩; rw [← HMJ.out, hc] at a; exact hd a)
        rw [← HMJ.out] at HE
        have hcut : ∀ wx, (Instr.slice 9 (.string ⟨s.toArray⟩) (some (.int .i64 1)) (some (.int .i64 (m : Int))) none).run Tryd.prog wx = .ok (.string ⟨((s.take m).drop 1).toArray⟩) wx := fun wx => run_cut s 1 m (by have := HMJ.out; omega) (by have := HL.out; omega) wx
        obtain ⟨wh, hwh⟩ : ∃ wh, (s.take m).drop 1 = wh := ⟨_, rfl⟩
        rw [hwh] at hcut HE
        obtain ⟨e1, e2, e3⟩ := wh_of HK1.out HMJ.out HE
        have HW : Hid (pWh s = wh) := e1
        have HJ : Hid ((pWh s).length = j) := e2
        have HK2 : Hid (pK2 s = m) := e3
        have HWl : Hid (wh.length = j) := by rw [← e1]; exact e2
        have swh : (ByteArray.mk wh.toArray).size = j := by rw [sz_mk]; exact HWl.out
        have hj4 : j ≤ 4096 := by have := HMJ.out; omega
        clear hwh HE e1 e2 e3
        have htk := tk_of hml2 hc
        obtain ⟨cn, hcn⟩ : ∃ cn, c.toNat = cn := ⟨_, rfl⟩
        rw [hcn] at htk hix hI
        clear hd hd2 hc hml2
        by_cases hj0 : j = 0
        · have hb := bad_none (by rw [HJ.out]; exact hj0) HK2.out
          replace hb : Hid _ := hb
          have hm0 : (m : Int) = 1 := by have := HMJ.out; omega
          have hm0b : ((m : Int) == 1) = true := by simpa using hm0
          replace hm0 : Hid _ := hm0
          go_wp2_with (go_at_call 12; refine (hI _).mono ?_; rintro e w2 ⟨rfl, rfl⟩)
          go_ret3
          exact ⟨⟨_, _, _, rfl, RdA.of_bad hb.out.1 (by rw [hb.out.2])⟩, Keep.refl _⟩
        · have hmne : ¬ ((m : Int) = 1) := by have := HMJ.out; omega
          have hmnb : ((m : Int) == 1) = false := by simpa using hmne
          by_cases hp : cn = 46
          · have hpb : ((cn : Int) == 46) = true := by rw [hp]; rfl
            have HTK : Hid (tk s [46] m = true) := by rw [htk, hp]; rfl
            clear htk hp hcn
            go_wp2_with (go_at_call 12; refine (hI _).mono ?_; rintro e w2 ⟨rfl, rfl⟩)
            go_loopg [10] (7) (fun g v10 wx => ∃ q t : Nat, t + g = 7 ∧ q = m + 1 + t ∧ t ≤ 6 ∧ q ≤ L ∧ v10 = .int .i64 (q : Int) ∧ (∀ i, i < t → m + 1 + i < s.length ∧ isD (s.getD (m + 1 + i) 0) = true) ∧ wx = wr)
            case atStart => exact ⟨m + 1, 0, by omega, by omega, by omega, by omega, by simp, fun i hi => by omega, rfl⟩
            case round =>
              obtain ⟨q, t, htg, hqt, ht6, hqL, rfl, hdt, rfl⟩ := hrel
              have HDT : Hid (∀ i, i < t → m + 1 + i < s.length ∧ isD (s.getD (m + 1 + i) 0) = true) := hdt
              have HQT : Hid (q = m + 1 + t) := hqt
              clear hdt hqt
              by_cases hql : q < L
              · have hqI : (q : Int) < (L : Int) := by omega
                have hql2 : q < s.length := by have := HL.out; omega
                by_cases ht : t < 6
                · have hqm : (q : Int) < (m : Int) + 7 := by have := HQT.out; omega
                  have hixq := fun wx => run_ix s q hql2 wx
                  obtain ⟨cq, hcq⟩ : ∃ cq, s.getD q 0 = cq := ⟨_, rfl⟩
                  rw [hcq] at hixq
                  have hIq := fun wx => (risDigit_any cq wx).mono (fun e w' h => (⟨h.1, h.2.symm⟩ : e = .returned (.bool (isD cq)) ∧ wx = w'))
                  by_cases hdq : isD cq = true
                  · rw [hdq] at hIq
                    have HDT2 : Hid (∀ i, i < t + 1 → m + 1 + i < s.length ∧ isD (s.getD (m + 1 + i) 0) = true) := by
                      intro i hi
                      by_cases e : i = t
                      · rw [e, ← HQT.out, hcq]; exact ⟨hql2, hdq⟩
                      · exact HDT.out i (by omega)
                    clear hcq hdq hql2
                    go_wp2_with (go_at_call 12; refine (hIq _).mono ?_; rintro e w2 ⟨rfl, rfl⟩)
                    go_roundg (gk - 1)
                    case measure => omega
                    case rel => exact ⟨q + 1, t + 1, by omega, by have := HQT.out; omega, by omega, by omega, by simp, HDT2.out, rfl⟩
                  · have hdq2 : isD cq = false := by simpa using hdq
                    rw [hdq2] at hIq
                    have HPp := dg_end s (m + 1) 6 t ht6 HDT.out (.inr (by rintro ⟨-, a⟩; rw [← HQT.out, hcq] at a; exact hdq a))
                    rw [← HQT.out] at HPp
                    obtain ⟨f1, f2, f3⟩ := with_dot (by rw [HJ.out]; omega) HK2.out HTK.out HPp HQT.out
                    have hb : Hid (¬ rGood s ∧ pK3 6 s = q) := ⟨fun g => by have := g.2; rw [f2] at this; have := HL.out; omega, f2⟩
                    have hcut2 := fun wx => run_cut s (m + 1) q (by have := HQT.out; omega) (by omega) wx
                    clear hcq hdq hdq2 HPp f1 f2 f3 hql2
                    have hc1 : ((m + 1 : Nat) : Int) = (m : Int) + 1 := by omega
                    rw [hc1] at hcut2
                    by_cases ht0 : t = 0
                    · have hq1 : (q : Int) = (m : Int) + 1 := by have := HQT.out; omega
                      have hq1b : ((q : Int) == (m : Int) + 1) = true := by simpa using hq1
                      replace hq1 : Hid _ := hq1
                      go_wp2_with (go_at_call 12; refine (hIq _).mono ?_; rintro e w2 ⟨rfl, rfl⟩)
                      go_ret3
                      exact ⟨⟨_, _, _, rfl, RdA.of_bad hb.out.1 (by rw [hb.out.2])⟩, Keep.refl _⟩
                    · have hq1 : ¬ (q : Int) = (m : Int) + 1 := by have := HQT.out; omega
                      have hq1b : ((q : Int) == (m : Int) + 1) = false := by simpa using hq1
                      go_wp2_with (go_at_call 12; refine (hIq _).mono ?_; rintro e w2 ⟨rfl, rfl⟩)
                      go_ret3
                      exact ⟨⟨_, _, _, rfl, RdA.of_bad hb.out.1 (by rw [hb.out.2])⟩, Keep.refl _⟩
                · have ht6e : t = 6 := by omega
                  have hqm : ¬ (q : Int) < (m : Int) + 7 := by have := HQT.out; omega
                  have HPp := dg_end s (m + 1) 6 t ht6 HDT.out (.inl ht6e)
                  rw [← HQT.out] at HPp
                  obtain ⟨f1, f2, f3⟩ := with_dot (by rw [HJ.out]; omega) HK2.out HTK.out HPp HQT.out
                  have hb : Hid (¬ rGood s ∧ pK3 6 s = q) := ⟨fun g => by have := g.2; rw [f2] at this; have := HL.out; omega, f2⟩
                  have hcut2 := fun wx => run_cut s (m + 1) q (by have := HQT.out; omega) (by omega) wx
                  have hc1 : ((m + 1 : Nat) : Int) = (m : Int) + 1 := by omega
                  rw [hc1] at hcut2
                  have hq1 : ¬ (q : Int) = (m : Int) + 1 := by have := HQT.out; omega
                  have hq1b : ((q : Int) == (m : Int) + 1) = false := by simpa using hq1
                  clear HPp f1 f2 f3 hql2 ht6e
                  go_wp2_with fail
                  go_ret3
                  exact ⟨⟨_, _, _, rfl, RdA.of_bad hb.out.1 (by rw [hb.out.2])⟩, Keep.refl _⟩
              · obtain rfl : q = L := by omega
                have hqI : ¬ (q : Int) < (q : Int) := by omega
                have HPp := dg_end s (m + 1) 6 t ht6 HDT.out (.inr (by rintro ⟨a, -⟩; rw [← HQT.out] at a; have := HL.out; omega))
                rw [← HQT.out] at HPp
                have hcut2 := fun wx => run_cut s (m + 1) q (by have := HQT.out; omega) (by have := HL.out; omega) wx
                have hc1 : ((m + 1 : Nat) : Int) = (m : Int) + 1 := by omega
                rw [hc1] at hcut2
                obtain ⟨pt, hpt⟩ : ∃ pt, (s.take q).drop (m + 1) = pt := ⟨_, rfl⟩
                rw [hpt] at hcut2 HPp
                have hptl : pt.length = t := by rw [← HPp.1]; exact HPp.2
                obtain ⟨f1, f2, f3⟩ := with_dot (by rw [HJ.out]; omega) HK2.out HTK.out HPp HQT.out
                by_cases ht0 : t = 0
                · have hb : Hid (¬ rGood s ∧ pK3 6 s = q) := ⟨fun g => by have := f3.1 g.1; omega, f2⟩
                  have hq1 : (q : Int) = (m : Int) + 1 := by have := HQT.out; omega
                  have hq1b : ((q : Int) == (m : Int) + 1) = true := by simpa using hq1
                  replace hq1 : Hid _ := hq1
                  clear HPp f1 f2 f3 hpt hptl
                  go_wp2_with fail
                  go_ret3
                  exact ⟨⟨_, _, _, rfl, RdA.of_bad hb.out.1 (by rw [hb.out.2])⟩, Keep.refl _⟩
                · have hq1 : ¬ (q : Int) = (m : Int) + 1 := by have := HQT.out; omega
                  have hq1b : ((q : Int) == (m : Int) + 1) = false := by simpa using hq1
                  have HG : Hid (rGood s) := ⟨f3.2 (by omega), by rw [f2]; exact HL.out.symm⟩
                  have HQ : Hid (pPt 6 s = pt) := f1
                  have HPD : Hid (allD pt) := by rw [← HQ.out]; exact pPt_d 6 s
                  have HP0 : Hid (pt = pt) := rfl
                  have hpl : pt.length ≤ 6 := by omega
                  clear HPp f1 f2 f3 hpt hptl
                  go_wp2_with fail
                  go_loopg [9] (6 - pt.length) (fun g v9 wx => ∃ (i : Nat) (u : List UInt8), i + g = 6 - pt.length ∧ u = pt ++ List.replicate i 48 ∧ v9 = .string ⟨u.toArray⟩ ∧ wx = wr)
                  case atStart => exact ⟨0, pt, by omega, by simp, by first | rfl | (rw [HP0.out]), rfl⟩
                  case round =>
                    obtain ⟨i, u, hig, hu, rfl, rfl⟩ := hrel
                    have HU : Hid (u = pt ++ List.replicate i 48) := hu
                    have hul : u.length = pt.length + i := by rw [hu]; simp
                    have hud : allD u := by rw [hu]; exact HPD.out.app (allD.zeros i)
                    clear hu
                    obtain ⟨U, hU⟩ : ∃ U, u.length = U := ⟨_, rfl⟩
                    have su : (ByteArray.mk u.toArray).size = U := by rw [sz_mk]; exact hU
                    rw [hU] at hul
                    have hU6 : U ≤ 6 := by omega
                    replace hU : Hid _ := hU
                    replace hul : Hid _ := hul
                    replace hud : Hid _ := hud
                    by_cases hi : i < 6 - pt.length
                    · have hcu : (ByteArray.mk u.toArray) ++ (ByteArray.mk #[48]) = ByteArray.mk (u ++ [48]).toArray := catB u [48]
                      have hU6 : (U : Int) < 6 := by have := hul.out; omega
                      go_wp2_with fail
                      go_roundg (gk - 1)
                      case measure => omega
                      case rel => exact ⟨i + 1, u ++ [48], by omega, by rw [HU.out, List.append_assoc, List.replicate_succ'], rfl, rfl⟩
                    · have hU7 : ¬ (U : Int) < 6 := by have := hul.out; omega
                      have hi6 : i = 6 - pt.length := by omega
                      obtain ⟨F, hF⟩ : ∃ F, wh ++ u = F := ⟨_, rfl⟩
                      have hcF : (ByteArray.mk wh.toArray) ++ (ByteArray.mk u.toArray) = ByteArray.mk F.toArray := by rw [catB, hF]
                      have hFd : allD F := by rw [← hF]; exact (by rw [← HW.out]; exact pWh_d s : allD wh).app hud.out
                      have hFl : F.length ≤ 8192 := by rw [← hF, List.length_append, hU.out, HWl.out]; omega
                      have hW := fun wx => whole_any true F wx hFl hFd
                      have hFn : nat F = rN s := by rw [← hF, HU.out, hi6]; exact rN_of HW.out HQ.out hpl
                      rw [hFn] at hW
                      have HR : Hid (pNg s = true) := HNG
                      obtain ⟨bb, hbb⟩ : ∃ bb, decide (sgE true (rN s) = 0) = bb := ⟨_, rfl⟩
                      rw [hbb] at hW
                      replace hbb : Hid _ := hbb
                      clear hFl hFd hFn hF hi6
                      cases bb
                      · go_wp2_with (go_at_call 13; refine (hW _).mono ?_; rintro e w2 ⟨⟨X, rfl, hX⟩, k2⟩; replace hX : Hid _ := hX; replace k2 : Hid _ := k2)
                        go_ret3
                        have hn := sg_not true (rN s) (of_decide_eq_false hbb.out)
                        exact ⟨⟨_, _, _, rfl, RdA.of_good HG.out (by rw [HR.out]; exact hn.1.symm) (by rw [HR.out]; exact hn.2.symm)⟩, k2.out⟩
                      · go_wp2_with (go_at_call 13; refine (hW _).mono ?_; rintro e w2 ⟨⟨X, rfl, hX⟩, k2⟩; replace hX : Hid _ := hX; replace k2 : Hid _ := k2)
                        go_ret3
                        have hn := of_decide_eq_true hbb.out
                        exact ⟨⟨_, _, _, rfl, RdA.of_good HG.out (by rw [HR.out]; exact hX.out hn) (by rw [HR.out]; exact hn.symm)⟩, k2.out⟩
          · have hpn : ¬ (cn : Int) = 46 := by omega
            have hpb : ((cn : Int) == 46) = false := by simpa using hpn
            have htk2 : tk s [46] m = false := by rw [htk]; exact decide_eq_false hp
            obtain ⟨f1, f2, f3, f4⟩ := no_dot (by rw [HJ.out]; omega) HK2.out htk2
            have hb : Hid (¬ rGood s ∧ pK3 6 s = m) := ⟨fun g => by have := g.2; rw [f3] at this; have := HL.out; omega, f3⟩
            clear f1 f2 f3 f4 htk htk2 hp hcn
            go_wp2_with (go_at_call 12; refine (hI _).mono ?_; rintro e w2 ⟨rfl, rfl⟩)
            go_ret3
            exact ⟨⟨_, _, _, rfl, RdA.of_bad hb.out.1 (by rw [hb.out.2])⟩, Keep.refl _⟩
    · obtain rfl : m = L := by omega
      have HE := dg_all s 1 j (by have := HMJ.out; have := HL.out; omega) HD.out (by have := HMJ.out; have := HL.out; rintro ⟨a, -⟩; omega)
      rw [← HMJ.out] at HE
      have hcut : ∀ wx, (Instr.slice 9 (.string ⟨s.toArray⟩) (some (.int .i64 1)) (some (.int .i64 (m : Int))) none).run Tryd.prog wx = .ok (.string ⟨((s.take m).drop 1).toArray⟩) wx := fun wx => run_cut s 1 m (by have := HMJ.out; omega) (by have := HL.out; omega) wx
      obtain ⟨wh, hwh⟩ : ∃ wh, (s.take m).drop 1 = wh := ⟨_, rfl⟩
      rw [hwh] at hcut HE
      obtain ⟨e1, e2, e3⟩ := wh_of HK1.out HMJ.out HE
      have HW : Hid (pWh s = wh) := e1
      have HJ : Hid ((pWh s).length = j) := e2
      have HK2 : Hid (pK2 s = m) := e3
      have HWl : Hid (wh.length = j) := by rw [← e1]; exact e2
      have swh : (ByteArray.mk wh.toArray).size = j := by rw [sz_mk]; exact HWl.out
      have hj4 : j ≤ 4096 := by have := HMJ.out; omega
      clear hwh HE e1 e2 e3
      by_cases hj0 : j = 0
      · have hb := bad_none (by rw [HJ.out]; exact hj0) HK2.out
        replace hb : Hid _ := hb
        have hm0 : (m : Int) = 1 := by have := HMJ.out; omega
        have hm0b : ((m : Int) == 1) = true := by simpa using hm0
        replace hm0 : Hid _ := hm0
        go_wp2_with fail
        go_ret3
        exact ⟨⟨_, _, _, rfl, RdA.of_bad hb.out.1 (by rw [hb.out.2])⟩, Keep.refl _⟩
      · have hmne : ¬ ((m : Int) = 1) := by have := HMJ.out; omega
        have hmnb : ((m : Int) == 1) = false := by simpa using hmne
        have htk : tk s [46] m = false := by unfold tk; apply decide_eq_false; rintro ⟨a, -⟩; have := HL.out; omega
        obtain ⟨f1, f2, f3, f4⟩ := no_dot (by rw [HJ.out]; omega) HK2.out htk
        have HG : Hid (rGood s) := ⟨f4, by rw [f3]; exact HL.out.symm⟩
        obtain ⟨pt, hpt⟩ : ∃ pt : List UInt8, pt = [] := ⟨_, rfl⟩
        have HQ : Hid (pPt 6 s = pt) := by rw [hpt]; exact f2
        have HP0 : Hid (pt = []) := hpt
        have hpl : pt.length ≤ 6 := by rw [hpt]; simp
        have HPD : Hid (allD pt) := by rw [hpt]; intro x hx; cases hx
        clear hpt f1 f2 f3 f4 htk
        go_wp2_with fail
        go_loopg [9] (6 - pt.length) (fun g v9 wx => ∃ (i : Nat) (u : List UInt8), i + g = 6 - pt.length ∧ u = pt ++ List.replicate i 48 ∧ v9 = .string ⟨u.toArray⟩ ∧ wx = wr)
        case atStart => exact ⟨0, pt, by omega, by simp, by first | rfl | (rw [HP0.out]), rfl⟩
        case round =>
          obtain ⟨i, u, hig, hu, rfl, rfl⟩ := hrel
          have HU : Hid (u = pt ++ List.replicate i 48) := hu
          have hul : u.length = pt.length + i := by rw [hu]; simp
          have hud : allD u := by rw [hu]; exact HPD.out.app (allD.zeros i)
          clear hu
          obtain ⟨U, hU⟩ : ∃ U, u.length = U := ⟨_, rfl⟩
          have su : (ByteArray.mk u.toArray).size = U := by rw [sz_mk]; exact hU
          rw [hU] at hul
          have hU6 : U ≤ 6 := by omega
          replace hU : Hid _ := hU
          replace hul : Hid _ := hul
          replace hud : Hid _ := hud
          by_cases hi : i < 6 - pt.length
          · have hcu : (ByteArray.mk u.toArray) ++ (ByteArray.mk #[48]) = ByteArray.mk (u ++ [48]).toArray := catB u [48]
            have hU6 : (U : Int) < 6 := by have := hul.out; omega
            go_wp2_with fail
            go_roundg (gk - 1)
            case measure => omega
            case rel => exact ⟨i + 1, u ++ [48], by omega, by rw [HU.out, List.append_assoc, List.replicate_succ'], rfl, rfl⟩
          · have hU7 : ¬ (U : Int) < 6 := by have := hul.out; omega
            have hi6 : i = 6 - pt.length := by omega
            obtain ⟨F, hF⟩ : ∃ F, wh ++ u = F := ⟨_, rfl⟩
            have hcF : (ByteArray.mk wh.toArray) ++ (ByteArray.mk u.toArray) = ByteArray.mk F.toArray := by rw [catB, hF]
            have hFd : allD F := by rw [← hF]; exact (by rw [← HW.out]; exact pWh_d s : allD wh).app hud.out
            have hFl : F.length ≤ 8192 := by rw [← hF, List.length_append, hU.out, HWl.out]; omega
            have hW := fun wx => whole_any true F wx hFl hFd
            have hFn : nat F = rN s := by rw [← hF, HU.out, hi6]; exact rN_of HW.out HQ.out hpl
            rw [hFn] at hW
            have HR : Hid (pNg s = true) := HNG
            obtain ⟨bb, hbb⟩ : ∃ bb, decide (sgE true (rN s) = 0) = bb := ⟨_, rfl⟩
            rw [hbb] at hW
            replace hbb : Hid _ := hbb
            clear hFl hFd hFn hF hi6
            cases bb
            · go_wp2_with (go_at_call 13; refine (hW _).mono ?_; rintro e w2 ⟨⟨X, rfl, hX⟩, k2⟩; replace hX : Hid _ := hX; replace k2 : Hid _ := k2)
              go_ret3
              have hn := sg_not true (rN s) (of_decide_eq_false hbb.out)
              exact ⟨⟨_, _, _, rfl, RdA.of_good HG.out (by rw [HR.out]; exact hn.1.symm) (by rw [HR.out]; exact hn.2.symm)⟩, k2.out⟩
            · go_wp2_with (go_at_call 13; refine (hW _).mono ?_; rintro e w2 ⟨⟨X, rfl, hX⟩, k2⟩; replace hX : Hid _ := hX; replace k2 : Hid _ := k2)
              go_ret3
              have hn := of_decide_eq_true hbb.out
              exact ⟨⟨_, _, _, rfl, RdA.of_good HG.out (by rw [HR.out]; exact hX.out hn) (by rw [HR.out]; exact hn.symm)⟩, k2.out⟩
end Go.Proofs.YtgciimjcdhallaaDoor
