import Derived.Test.YtjbiknnichfajaaS6
set_option linter.unusedVariables false
set_option linter.unusedSimpArgs false
namespace Go.Proofs.Ytjbiknnichfajaa
open Go.RowKit Go.Shelf
theorem okC_first {l : List Nat} {k y : Nat} (ey : l.getD k 0 = y) (hn : ¬ isNaN y) (hz : y ≠ 9223372036854775808) (h0 : k = 0) : okC l k = true := by
  unfold okC; rw [ey, decide_eq_false hn, h0]; simp [hz]
theorem okC_next {l : List Nat} {k q y : Nat} (ey : l.getD k 0 = y) (hn : ¬ isNaN y) (hz : y ≠ 9223372036854775808) (h0 : k = q + 1) : okC l k = decide (key (l.getD q 0) < key y) := by
  unfold okC; rw [ey, decide_eq_false hn, h0]; simp [hz]
theorem okC_num {l : List Nat} {q : Nat} (h : okC l q = true) : ¬ isNaN (l.getD q 0) := by
  simp only [okC, Bool.and_eq_true, Bool.not_eq_true', decide_eq_false_iff_not] at h
  exact h.1.1
set_option maxRecDepth 100000 in
set_option maxHeartbeats 4000000 in
theorem rRight_any (a a2 : Option Addr) (c c2 : Nat) (V : List (List Nat)) (T : List (List Int)) (w : World) (h : Bn w a a2 V T) :
    Calls Try.prog 9 #[BV a V.length c a2 T.length c2] w fun e w' => e = .returned (.bool (rightB V T)) ∧ Keep w w' := by
  obtain ⟨w1, hw1, k1, t1, s1⟩ := boxed w #[.slice a V.length c, .slice a2 T.length c2] 25
  obtain ⟨c0, c1, f0, f1⟩ := cells2 t1
  have hnv := h.nv
  have hnt := h.nt
  have hB := h.keep k1
  clear h
  by_cases g1 : V.length = T.length
  · have G1 : Hid (V.length = T.length) := g1
    by_cases g2 : V.length < 1
    · have HR : Hid (rightB V T = false) := by show _ = _; unfold rightB; rw [decide_eq_false (fun h => by omega)]; rfl
      generalize rightB V T = R at *
      have e1 : ((V.length : Int) != (T.length : Int)) = false := by simp; omega
      clear g1
      have e2 : decide ((V.length : Int) < 1) = true := by rw [decide_eq_true_eq]; omega
      go_enter Try.func9, Try.ntmps9
      go_wp2_with (rw [hw1])
      go_ret
      exact ⟨ret_bool HR.out.symm, k1⟩
    · by_cases g3 : 65536 < V.length
      · have HR : Hid (rightB V T = false) := by show _ = _; unfold rightB; rw [decide_eq_false (fun h => by omega)]; rfl
        generalize rightB V T = R at *
        have e1 : ((V.length : Int) != (T.length : Int)) = false := by simp; omega
        clear g1
        have e2 : decide ((V.length : Int) < 1) = false := by rw [decide_eq_false_iff_not]; omega
        have e3 : decide ((65536 : Int) < (V.length : Int)) = true := by rw [decide_eq_true_eq]; omega
        go_enter Try.func9, Try.ntmps9
        go_wp2_with (rw [hw1])
        go_ret
        exact ⟨ret_bool HR.out.symm, k1⟩
      · have HR : Hid (rightB V T = fineB V T) := by show _ = _; unfold rightB; rw [decide_eq_true (by omega)]; rfl
        have e1 : ((V.length : Int) != (T.length : Int)) = false := by simp; omega
        clear g1
        have e2 : decide ((V.length : Int) < 1) = false := by rw [decide_eq_false_iff_not]; omega
        have e3 : decide ((65536 : Int) < (V.length : Int)) = false := by rw [decide_eq_false_iff_not]; omega
        generalize rightB V T = R at *
        go_enter Try.func9, Try.ntmps9
        go_wp2_with (rw [hw1])
        clear e1 e2 e3 g2 g3 hw1
        go_loopw [3] (fun i wr => ∃ k : Nat, k ≤ V.length ∧ i = .int .i64 k ∧ Keep w1 wr ∧ Hid (∀ j, j < k → rgB (V.getD j []) (T.getD j []) = true)) (fun i _ => V.length - (intOf i).toNat)
        case atStart => exact ⟨0, by omega, rfl, Keep.refl _, fun j hj => by omega⟩
        case round =>
          obtain ⟨k, hk, rfl, kw, HO⟩ := hrel
          obtain ⟨wk, hwk⟩ : ∃ wk, wk = wr := ⟨_, rfl⟩
          subst hwk
          have y0 := kw.cell c0
          have y1 := kw.cell c1
          by_cases hkl : k < V.length
          · have hkc : (k : Int) < (V.length : Int) := by omega
            have hkt : k < T.length := by have := G1.out; omega
            have hktc : (k : Int) < (T.length : Int) := by omega
            obtain ⟨b, o, x, cx, rfl, p1, p2, p3, p4⟩ := (hB.keep kw).rv k hkl
            obtain ⟨b2, o2, y, cy, rfl, r1, r2, r3⟩ := (hB.keep kw).rt k hkt
            have HF : Hid (rgB (V.getD k []) (T.getD k []) = false → R = false) := fun hh => by rw [HR.out]; exact all_no hkl hh
            have HN : Hid (rgB (V.getD k []) (T.getD k []) = true → ∀ j, j < k + 1 → rgB (V.getD j []) (T.getD j []) = true) := fun hb j hj => by
              by_cases e : j = k
              · rw [e]; exact hb
              · exact HO.out j (by omega)
            generalize V.getD k [] = l at *
            generalize T.getD k [] = t at *
            go_wp2_with fail
            go_loopw [5] (fun i wq => ∃ j : Nat, j ≤ l.length ∧ i = .int .i64 j ∧ Keep wk wq ∧ Hid (∀ q, q < j → okC l q = true)) (fun i _ => l.length - (intOf i).toNat)
            case atStart => exact ⟨0, by omega, rfl, Keep.refl _, fun j hj => by omega⟩
            case round =>
              obtain ⟨j, hj, rfl, kq, HJ⟩ := hrel
              have z0 := kq.cell y0
              have z1 := kq.cell y1
              by_cases hjl : j < l.length
              · have hjc : (j : Int) < (l.length : Int) := by omega
                obtain ⟨b3, o3, rfl, cv⟩ := (p2.keep kq) j hjl
                have hv := p4 j hjl
                obtain ⟨v, ev⟩ : ∃ v, l.getD j 0 = v := ⟨_, rfl⟩
                rw [ev] at cv hv
                have hb := f64bits v
                by_cases hn : isNaN v
                · have HX : Hid (okC l j = false) := by show _ = _; unfold okC; rw [ev, decide_eq_true hn]; rfl
                  have ho : (FloatKind.f64.format.order v v != some .eq) = true := by rw [ord_nan (x := v) (y := v) (.inl hn)]; rfl
                  clear ev hn
                  go_wp2_with fail
                  go_big_quiet (fail)
                  go_wp2_with fail
                  go_ret
                  exact ⟨ret_bool (HF.out (rg_no hjl HX.out)).symm, k1.trans (kw.trans (kq.drewN _))⟩
                · have ho : (FloatKind.f64.format.order v v != some .eq) = false := by rw [ord_self hv hn]; rfl
                  by_cases hz : v = 9223372036854775808
                  · have HX : Hid (okC l j = false) := by show _ = _; unfold okC; rw [ev, hz]; simp
                    clear hn hv ev
                    subst hz
                    go_wp2_with fail
                    go_big_quiet (fail)
                    go_wp2_with fail
                    go_ret
                    exact ⟨ret_bool (HF.out (rg_no hjl HX.out)).symm, k1.trans (kw.trans (kq.drewN _))⟩
                  · have hz2 : ((v : Int) == 9223372036854775808) = false := by rw [beq_eq_false_iff_ne]; omega
                    rcases Nat.eq_zero_or_pos j with hj0 | hj0
                    · have HT : Hid (okC l j = true) := okC_first ev hn hz hj0
                      have HN' : Hid (∀ i, i < j + 1 → okC l i = true) := fun i hi => by by_cases e : i = j; (· rw [e]; exact HT.out); (· exact HJ.out i (by omega))
                      clear ev hn hz HT
                      subst hj0
                      rw [Nat.add_zero] at cv
                      have hjc0 : (0 : Int) < (l.length : Int) := by omega
                      go_wp2_with fail
                      go_big_quiet (fail)
                      go_wp2_with fail
                      go_roundw
                      case rel => exact ⟨0 + 1, by omega, by go_num, kq.drewN _, HN'⟩
                      case measure => simp [intOf]; omega
                    · obtain ⟨q, hq⟩ : ∃ q, j = q + 1 := ⟨j - 1, by omega⟩
                      have hqi : (j : Int) - 1 = (q : Int) := by omega
                      have hql : q < l.length := by omega
                      have hqc : (q : Int) < (l.length : Int) := by omega
                      have hzn := okC_num (HJ.out q (by omega))
                      obtain ⟨b4, o4, e4, cz⟩ := (p2.keep kq) q hql
                      simp only [Option.some.injEq, Addr.mk.injEq, and_true] at e4
                      obtain ⟨rfl, rfl⟩ := e4
                      have hzz := p4 q hql
                      have HO2 : Hid (okC l j = decide (key (l.getD q 0) < key v)) := okC_next ev hn hz hq
                      generalize l.getD q 0 = z at cz hzz HO2 hzn
                      rcases Nat.lt_trichotomy (key v) (key z) with hlt | hlt | hlt
                      · have HX : Hid (okC l j = false) := by show _ = _; rw [HO2.out]; exact decide_eq_false (by omega)
                        have hoz := ord_lt hv hzz hn hzn hlt
                        clear ev hn hz HO2 hlt hzn hq
                        go_wp2_with fail
                        go_big_quiet (fail)
                        go_wp2_with fail
                        go_ret
                        exact ⟨ret_bool (HF.out (rg_no hjl HX.out)).symm, k1.trans (kw.trans (kq.drewN _))⟩
                      · have HX : Hid (okC l j = false) := by show _ = _; rw [HO2.out]; exact decide_eq_false (by omega)
                        have hoz := ord_eq hv hzz hn hzn hlt
                        clear ev hn hz HO2 hlt hzn hq
                        go_wp2_with fail
                        go_big_quiet (fail)
                        go_wp2_with fail
                        go_ret
                        exact ⟨ret_bool (HF.out (rg_no hjl HX.out)).symm, k1.trans (kw.trans (kq.drewN _))⟩
                      · have HT : Hid (okC l j = true) := by show _ = _; rw [HO2.out]; exact decide_eq_true hlt
                        have HN' : Hid (∀ i, i < j + 1 → okC l i = true) := fun i hi => by by_cases e : i = j; (· rw [e]; exact HT.out); (· exact HJ.out i (by omega))
                        have hoz := ord_gt hv hzz hn hzn hlt
                        clear ev hn hz HO2 hlt hzn hq HT
                        go_wp2_with fail
                        go_big_quiet (fail)
                        go_wp2_with fail
                        go_roundw
                        case rel => exact ⟨j + 1, by omega, by go_num, kq.drewN _, HN'⟩
                        case measure => simp [intOf]; omega
              · have hjc : ¬ (j : Int) < (l.length : Int) := by omega
                have HA : Hid (∀ i, i < l.length → okC l i = true) := fun i hi => HJ.out i (by omega)
                have r1q := kq.cell r1
                go_wp2_with fail
                go_loopw [7] (fun i wq2 => ∃ j : Nat, j ≤ t.length ∧ i = .int .i64 j ∧ Keep wk wq2 ∧ Hid (∀ q, q < j → okT t q = true)) (fun i _ => t.length - (intOf i).toNat)
                case atStart => exact ⟨0, by omega, rfl, kq, fun j hj => by omega⟩
                case round =>
                  clear kq z0 z1 r1q HJ hjc hj
                  obtain ⟨j, hj, rfl, kq, HJ⟩ := hrel
                  have z0 := kq.cell y0
                  have z1 := kq.cell y1
                  by_cases hjl : j < t.length
                  · have hjc : (j : Int) < (t.length : Int) := by omega
                    obtain ⟨b3, o3, rfl, cv⟩ := (r2.keep kq) j hjl
                    have HO1 : Hid (okT t j = (decide (0 ≤ t.getD j 0) && decide (t.getD j 0 < 1024) && (j == 0 || decide (t.getD (j - 1) 0 < t.getD j 0)))) := rfl
                    generalize t.getD j 0 = v at cv HO1
                    by_cases h0 : 0 ≤ v
                    · have d0 : decide (v < 0) = false := by rw [decide_eq_false_iff_not]; omega
                      by_cases h1 : v < 1024
                      · have d1 : decide (1024 ≤ v) = false := by rw [decide_eq_false_iff_not]; omega
                        rcases Nat.eq_zero_or_pos j with hj0 | hj0
                        · have HT : Hid (okT t j = true) := by show _ = _; rw [HO1.out, hj0, decide_eq_true h0, decide_eq_true h1]; rfl
                          have HN' : Hid (∀ i, i < j + 1 → okT t i = true) := fun i hi => by by_cases e : i = j; (· rw [e]; exact HT.out); (· exact HJ.out i (by omega))
                          clear HO1 HT
                          subst hj0
                          rw [Nat.add_zero] at cv
                          have hjc0 : (0 : Int) < (t.length : Int) := by omega
                          go_wp2_with fail
                          go_big_quiet (fail)
                          go_wp2_with fail
                          go_roundw
                          case rel => exact ⟨0 + 1, by omega, by go_num, kq.drewN _, HN'⟩
                          case measure => simp [intOf]; omega
                        · obtain ⟨q, hq⟩ : ∃ q, j = q + 1 := ⟨j - 1, by omega⟩
                          have hqi : (j : Int) - 1 = (q : Int) := by omega
                          have hql : q < t.length := by omega
                          have hqc : (q : Int) < (t.length : Int) := by omega
                          obtain ⟨b4, o4, e4, cz⟩ := (r2.keep kq) q hql
                          simp only [Option.some.injEq, Addr.mk.injEq, and_true] at e4
                          obtain ⟨rfl, rfl⟩ := e4
                          have HO2 : Hid (okT t j = decide (t.getD q 0 < v)) := by show _ = _; rw [HO1.out, hq, decide_eq_true h0, decide_eq_true h1]; simp
                          generalize t.getD q 0 = z at cz HO2
                          by_cases hlt : z < v
                          · have HT : Hid (okT t j = true) := by show _ = _; rw [HO2.out]; exact decide_eq_true hlt
                            have HN' : Hid (∀ i, i < j + 1 → okT t i = true) := fun i hi => by by_cases e : i = j; (· rw [e]; exact HT.out); (· exact HJ.out i (by omega))
                            have hd : decide (v ≤ z) = false := by rw [decide_eq_false_iff_not]; omega
                            clear HO1 HT HO2 hq
                            go_wp2_with fail
                            go_big_quiet (fail)
                            go_wp2_with fail
                            go_roundw
                            case rel => exact ⟨j + 1, by omega, by go_num, kq.drewN _, HN'⟩
                            case measure => simp [intOf]; omega
                          · have HX : Hid (okT t j = false) := by show _ = _; rw [HO2.out]; exact decide_eq_false hlt
                            have hd : decide (v ≤ z) = true := by rw [decide_eq_true_eq]; omega
                            clear HO1 HO2 hq hlt
                            go_wp2_with fail
                            go_big_quiet (fail)
                            go_wp2_with fail
                            go_ret
                            exact ⟨ret_bool (HF.out (rg_no2 hjl HX.out)).symm, k1.trans (kw.trans (kq.drewN _))⟩
                      · have HX : Hid (okT t j = false) := by show _ = _; rw [HO1.out, decide_eq_false h1]; simp
                        have d1 : decide (1024 ≤ v) = true := by rw [decide_eq_true_eq]; omega
                        clear HO1 h1
                        go_wp2_with fail
                        go_big_quiet (fail)
                        go_wp2_with fail
                        go_ret
                        exact ⟨ret_bool (HF.out (rg_no2 hjl HX.out)).symm, k1.trans (kw.trans (kq.drewN _))⟩
                    · have HX : Hid (okT t j = false) := by show _ = _; rw [HO1.out, decide_eq_false h0]; simp
                      have d0 : decide (v < 0) = true := by rw [decide_eq_true_eq]; omega
                      clear HO1
                      go_wp2_with fail
                      go_big_quiet (fail)
                      go_wp2_with fail
                      go_ret
                      exact ⟨ret_bool (HF.out (rg_no2 hjl HX.out)).symm, k1.trans (kw.trans (kq.drewN _))⟩
                  · have hjc : ¬ (j : Int) < (t.length : Int) := by omega
                    have HT : Hid (rgB l t = true) := rg_yes HA.out (fun i hi => HJ.out i (by omega))
                    go_wp2_with fail
                    go_roundw
                    case rel => exact ⟨k + 1, by omega, by go_num, kw.trans kq, HN.out HT.out⟩
                    case measure => simp [intOf]; omega
          · have hkc : ¬ (k : Int) < (V.length : Int) := by omega
            have HT : Hid (fineB V T = true) := all_yes (fun i hi => HO.out i (by omega))
            go_wp2_with fail
            go_ret
            exact ⟨ret_bool (by rw [HR.out, HT.out]), k1.trans kw⟩
  · have HR : Hid (rightB V T = false) := by show _ = _; unfold rightB; rw [decide_eq_false (fun h => g1 h.1)]; rfl
    generalize rightB V T = R at *
    have e1 : ((V.length : Int) != (T.length : Int)) = true := by simp; omega
    go_enter Try.func9, Try.ntmps9
    go_wp2_with (rw [hw1])
    go_ret
    exact ⟨ret_bool HR.out.symm, k1⟩
end Go.Proofs.Ytjbiknnichfajaa
