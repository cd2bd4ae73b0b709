import Derived.Test.YtjbiknnichfajaaS4
set_option linter.unusedVariables false
set_option linter.unusedSimpArgs false
namespace Go.Proofs.Ytjbiknnichfajaa
open Go.RowKit Go.Shelf
def okC (l : List Nat) (i : Nat) : Bool := !decide (isNaN (l.getD i 0)) && (l.getD i 0 != 9223372036854775808) && (i == 0 || decide (key (l.getD (i - 1) 0) < key (l.getD i 0)))
def okT (t : List Int) (i : Nat) : Bool := decide (0 ≤ t.getD i 0) && decide (t.getD i 0 < 1024) && (i == 0 || decide (t.getD (i - 1) 0 < t.getD i 0))
def rgC (l : List Nat) : Bool := (List.range l.length).all (okC l)
def rgT (t : List Int) : Bool := (List.range t.length).all (okT t)
def rgB (l : List Nat) (t : List Int) : Bool := rgC l && rgT t
theorem all_yes {n : Nat} {f : Nat → Bool} (h : ∀ i, i < n → f i = true) : (List.range n).all f = true := by rw [List.all_eq_true]; intro i hi; exact h i (by simpa using hi)
theorem all_no {n i : Nat} {f : Nat → Bool} (hi : i < n) (h : f i = false) : (List.range n).all f = false := by
  rw [List.all_eq_false]; exact ⟨i, by simpa using hi, by simp [h]⟩
theorem all_at {n : Nat} {f : Nat → Bool} (h : (List.range n).all f = true) (i : Nat) (hi : i < n) : f i = true := by
  rw [List.all_eq_true] at h; exact h i (by simpa using hi)
theorem rg_no {l : List Nat} {t : List Int} {i : Nat} (hi : i < l.length) (h : okC l i = false) : rgB l t = false := by unfold rgB rgC; rw [all_no hi h]; rfl
theorem rg_no2 {l : List Nat} {t : List Int} {i : Nat} (hi : i < t.length) (h : okT t i = false) : rgB l t = false := by unfold rgB rgT; rw [all_no hi h, Bool.and_false]
theorem rg_yes {l : List Nat} {t : List Int} (h1 : ∀ i, i < l.length → okC l i = true) (h2 : ∀ i, i < t.length → okT t i = true) : rgB l t = true := by unfold rgB rgC rgT; rw [all_yes h1, all_yes h2]; rfl
/-- What is right rises. -/
theorem rg_sc {l : List Nat} {t : List Int} (h : rgB l t = true) : ScR l t := by
  unfold rgB rgC rgT at h
  rw [Bool.and_eq_true] at h
  have h1 := all_at h.1
  have h2 := all_at h.2
  refine ⟨fun i hi => ?_, fun i hi => ?_, fun j hj => ?_, fun j hj => ?_⟩
  · rw [kys_len] at hi
    have := h1 (i + 1) hi
    rw [kys_get l i (by omega), kys_get l (i + 1) hi]
    simp [okC] at this
    simpa using this.2
  · rw [kts_len] at hi
    have a := h2 i (by omega)
    have b := h2 (i + 1) hi
    rw [kts_get t i (by omega), kts_get t (i + 1) hi]
    simp only [okT, Bool.and_eq_true, decide_eq_true_eq] at a b
    refine kf_lt a.1.1 ?_ b.1.2
    have := b.2
    simpa using this
  · have := h2 j hj
    simp only [okT, Bool.and_eq_true, decide_eq_true_eq] at this
    exact this.1
  · have := h1 j hj
    simp only [okC, Bool.and_eq_true, Bool.not_eq_true', decide_eq_false_iff_not] at this
    exact this.1.1
theorem zero_cmp {y : Nat} (hy : y < 18446744073709551616) (hn : ¬ isNaN y) (hz : y ≠ 9223372036854775808) : FloatKind.f64.format.order y 0 = some .lt ∨ FloatKind.f64.format.order y 0 = some .gt ∨ (FloatKind.f64.format.order y 0 = some .eq ∧ decide (9223372036854775808 ≤ y) = false) := by
  have h0 : ¬ isNaN 0 := by decide
  have k0 : key 0 = 9218868437227405312 := by decide
  rcases Nat.lt_trichotomy (key y) (key 0) with h | h | h
  · exact .inl (ord_lt hy (by omega) hn h0 h)
  · refine .inr (.inr ⟨ord_eq hy (by omega) hn h0 h, ?_⟩)
    rw [decide_eq_false_iff_not]
    intro h2
    unfold isNaN at hn
    rw [key_neg hn (by omega), k0] at h
    omega
  · exact .inr (.inl (ord_gt hy (by omega) hn h0 h))
theorem zero_neg : FloatKind.f64.format.order 9223372036854775808 0 = some .eq := ord_eq (by omega) (by omega) (by decide) (by decide) (by decide)
set_option maxRecDepth 100000 in
set_option maxHeartbeats 4000000 in
theorem isRight_any (a a2 : Option Addr) (c c2 : Nat) (l : List Nat) (t : List Int) (w : World) (h : Sc w a a2 l t) :
    Calls Try.prog 22 #[SV a l.length c a2 t.length c2] w fun e w' => e = .returned (.bool (rgB l t)) ∧ Keep w w' := by
  obtain ⟨w1, hw1, k1, t1, s1⟩ := boxed w #[.slice a l.length c, .slice a2 t.length c2] 46
  obtain ⟨c0, c1, f0, f1⟩ := cells2 t1
  have hr := h.rl.keep k1
  have hrt := h.rt.keep k1
  have hwl := h.wl
  have hnl := h.nl
  have hnt := h.nt
  have HN := fun (i : Nat) (hi : i < l.length) => rg_no (t := t) hi
  have HN2 := fun (i : Nat) (hi : i < t.length) => rg_no2 (l := l) hi
  have HY := rg_yes (l := l) (t := t)
  clear h
  generalize rgB l t = R at *
  replace HN : Hid _ := HN
  replace HN2 : Hid _ := HN2
  replace HY : Hid _ := HY
  go_enter Try.func22, Try.ntmps22
  go_wp2_with (rw [hw1])
  go_loop [10] (fun i => ∃ k : Nat, k ≤ l.length ∧ i = .int .i64 k ∧ Hid (∀ j, j < k → okC l j = true)) (fun i => l.length - (intOf i).toNat)
  case atStart => exact ⟨0, by omega, rfl, fun j hj => by omega⟩
  case round =>
    obtain ⟨k, hk, rfl, HO⟩ := hrel
    by_cases hkl : k < l.length
    · have hkc : (k : Int) < (l.length : Int) := by omega
      obtain ⟨b, o, rfl, cy⟩ := hr k hkl
      have hy := hwl k hkl
      obtain ⟨y, ey⟩ : ∃ y, l.getD k 0 = y := ⟨_, rfl⟩
      rw [ey] at cy hy
      have hN := IsNaN_any y w1 hy
      have hSg := Signbit_any y w1 hy
      by_cases hn : isNaN y
      · have HF : Hid (R = false) := HN.out k hkl (by unfold okC; rw [ey, decide_eq_true hn]; rfl)
        rw [decide_eq_true hn] at hN
        clear ey hn hSg
        go_wp2_with (go_at_call 23; refine hN.mono ?_; rintro e w0 ⟨rfl, rfl⟩)
        go_ret
        exact ⟨ret_bool HF.out.symm, k1⟩
      · rw [decide_eq_false hn] at hN
        by_cases hz : y = 9223372036854775808
        · have HF : Hid (R = false) := HN.out k hkl (by unfold okC; rw [ey, hz]; simp)
          rw [hz] at cy hN hSg
          rw [show decide (9223372036854775808 ≤ 9223372036854775808) = true from rfl] at hSg
          have hc := zero_neg
          clear ey hn hz hy
          go_wp2_with (first
            | (go_at_call 23; refine hN.mono ?_; rintro e w0 ⟨rfl, rfl⟩)
            | (go_at_call 35; refine hSg.mono ?_; rintro e w0 ⟨rfl, rfl⟩))
          go_ret
          exact ⟨ret_bool HF.out.symm, k1⟩
        · have hcase := zero_cmp hy hn hz
          have HO1 : Hid (okC l k = (k == 0 || decide (key (l.getD (k - 1) 0) < key y))) := by show _ = _; unfold okC; rw [ey, decide_eq_false hn]; simp [hz]
          clear hz
          rcases Nat.eq_zero_or_pos k with hk0 | hk0
          · have HT : Hid (okC l k = true) := by show _ = _; rw [HO1.out, hk0]; rfl
            have HN' : Hid (∀ j, j < k + 1 → okC l j = true) := fun j hj => by by_cases e : j = k; (· rw [e]; exact HT.out); (· exact HO.out j (by omega))
            clear ey hn HO1 HT
            subst hk0
            rw [Nat.add_zero] at cy
            have hkc0 : (0 : Int) < (l.length : Int) := by omega
            rcases hcase with hc | hc | ⟨hc, hs⟩
            · go_wp2_with (go_at_call 23; refine hN.mono ?_; rintro e w0 ⟨rfl, rfl⟩)
              go_round
              case rel => exact ⟨0 + 1, by omega, by go_num, HN'⟩
              case measure => simp [intOf]; omega
            · go_wp2_with (go_at_call 23; refine hN.mono ?_; rintro e w0 ⟨rfl, rfl⟩)
              go_round
              case rel => exact ⟨0 + 1, by omega, by go_num, HN'⟩
              case measure => simp [intOf]; omega
            · rw [hs] at hSg
              go_wp2_with (first
                | (go_at_call 23; refine hN.mono ?_; rintro e w0 ⟨rfl, rfl⟩)
                | (go_at_call 35; refine hSg.mono ?_; rintro e w0 ⟨rfl, rfl⟩))
              go_round
              case rel => exact ⟨0 + 1, by omega, by go_num, HN'⟩
              case measure => simp [intOf]; omega
          · obtain ⟨q, hq⟩ : ∃ q, k = q + 1 := ⟨k - 1, by omega⟩
            have hqi : (k : Int) - 1 = (q : Int) := by omega
            have hql : q < l.length := by omega
            have hqc : (q : Int) < (l.length : Int) := by omega
            obtain ⟨b1, o1, e1, cz⟩ := hr q hql
            simp only [Option.some.injEq, Addr.mk.injEq, and_true] at e1
            obtain ⟨rfl, rfl⟩ := e1
            have hzz := hwl q hql
            have HO2 : Hid (okC l k = decide (key (l.getD q 0) < key y)) := by show _ = _; rw [HO1.out, hq]; simp
            generalize l.getD q 0 = z at cz hzz HO2
            have hC := Compare_any z y w1 hzz hy
            by_cases hlt : key z < key y
            · have HT : Hid (okC l k = true) := by show _ = _; rw [HO2.out]; exact decide_eq_true hlt
              have HN' : Hid (∀ j, j < k + 1 → okC l j = true) := fun j hj => by by_cases e : j = k; (· rw [e]; exact HT.out); (· exact HO.out j (by omega))
              rw [show cmpV (key z) (key y) = -1 by unfold cmpV; rw [if_pos hlt]] at hC
              clear ey hn HO1 HT HO2 hlt hq
              rcases hcase with hc | hc | ⟨hc, hs⟩
              · go_wp2_with (first
                  | (go_at_call 23; refine hN.mono ?_; rintro e w0 ⟨rfl, rfl⟩)
                  | (go_at_call 27; refine hC.mono ?_; rintro e w0 ⟨rfl, rfl⟩))
                go_round
                case rel => exact ⟨k + 1, by omega, by go_num, HN'⟩
                case measure => simp [intOf]; omega
              · go_wp2_with (first
                  | (go_at_call 23; refine hN.mono ?_; rintro e w0 ⟨rfl, rfl⟩)
                  | (go_at_call 27; refine hC.mono ?_; rintro e w0 ⟨rfl, rfl⟩))
                go_round
                case rel => exact ⟨k + 1, by omega, by go_num, HN'⟩
                case measure => simp [intOf]; omega
              · rw [hs] at hSg
                go_wp2_with (first
                  | (go_at_call 23; refine hN.mono ?_; rintro e w0 ⟨rfl, rfl⟩)
                  | (go_at_call 35; refine hSg.mono ?_; rintro e w0 ⟨rfl, rfl⟩)
                  | (go_at_call 27; refine hC.mono ?_; rintro e w0 ⟨rfl, rfl⟩))
                go_round
                case rel => exact ⟨k + 1, by omega, by go_num, HN'⟩
                case measure => simp [intOf]; omega
            · have HF : Hid (R = false) := HN.out k hkl (by rw [HO2.out]; exact decide_eq_false hlt)
              have hv : decide ((0 : Int) ≤ cmpV (key z) (key y)) = true := by rw [decide_eq_true_eq]; unfold cmpV; rw [if_neg hlt]; split <;> omega
              generalize cmpV (key z) (key y) = cv at hC hv
              clear ey hn HO1 HO2 hlt hq
              rcases hcase with hc | hc | ⟨hc, hs⟩
              · go_wp2_with (first
                  | (go_at_call 23; refine hN.mono ?_; rintro e w0 ⟨rfl, rfl⟩)
                  | (go_at_call 27; refine hC.mono ?_; rintro e w0 ⟨rfl, rfl⟩))
                go_ret
                exact ⟨ret_bool HF.out.symm, k1⟩
              · go_wp2_with (first
                  | (go_at_call 23; refine hN.mono ?_; rintro e w0 ⟨rfl, rfl⟩)
                  | (go_at_call 27; refine hC.mono ?_; rintro e w0 ⟨rfl, rfl⟩))
                go_ret
                exact ⟨ret_bool HF.out.symm, k1⟩
              · rw [hs] at hSg
                go_wp2_with (first
                  | (go_at_call 23; refine hN.mono ?_; rintro e w0 ⟨rfl, rfl⟩)
                  | (go_at_call 35; refine hSg.mono ?_; rintro e w0 ⟨rfl, rfl⟩)
                  | (go_at_call 27; refine hC.mono ?_; rintro e w0 ⟨rfl, rfl⟩))
                go_ret
                exact ⟨ret_bool HF.out.symm, k1⟩
    · have hkc : ¬ (k : Int) < (l.length : Int) := by omega
      have HA : Hid (∀ i, i < l.length → okC l i = true) := fun i hi => HO.out i (by omega)
      clear HO HN
      go_wp2_with fail
      go_loop [44] (fun i => ∃ k : Nat, k ≤ t.length ∧ i = .int .i64 k ∧ Hid (∀ j, j < k → okT t j = true)) (fun i => t.length - (intOf i).toNat)
      case atStart => exact ⟨0, by omega, rfl, fun j hj => by omega⟩
      case round =>
        obtain ⟨k, hk, rfl, HO⟩ := hrel
        by_cases hkl : k < t.length
        · have hkc : (k : Int) < (t.length : Int) := by omega
          obtain ⟨b, o, rfl, cy⟩ := hrt k hkl
          have HO1 : Hid (okT t k = (decide (0 ≤ t.getD k 0) && decide (t.getD k 0 < 1024) && (k == 0 || decide (t.getD (k - 1) 0 < t.getD k 0)))) := rfl
          generalize t.getD k 0 = y at cy HO1
          by_cases h0 : 0 ≤ y
          · by_cases h1 : y < 1024
            · rcases Nat.eq_zero_or_pos k with hk0 | hk0
              · have HT : Hid (okT t k = true) := by show _ = _; rw [HO1.out, hk0, decide_eq_true h0, decide_eq_true h1]; rfl
                have HN' : Hid (∀ j, j < k + 1 → okT t j = true) := fun j hj => by by_cases e : j = k; (· rw [e]; exact HT.out); (· exact HO.out j (by omega))
                clear HO1 HT
                subst hk0
                rw [Nat.add_zero] at cy
                have hkc0 : (0 : Int) < (t.length : Int) := by omega
                go_wp2_with fail
                go_round
                case rel => exact ⟨0 + 1, by omega, by go_num, HN'⟩
                case measure => simp [intOf]; omega
              · obtain ⟨q, hq⟩ : ∃ q, k = q + 1 := ⟨k - 1, by omega⟩
                have hqi : (k : Int) - 1 = (q : Int) := by omega
                have hql : q < t.length := by omega
                have hqc : (q : Int) < (t.length : Int) := by omega
                obtain ⟨b1, o1, e1, cz⟩ := hrt q hql
                simp only [Option.some.injEq, Addr.mk.injEq, and_true] at e1
                obtain ⟨rfl, rfl⟩ := e1
                have HO2 : Hid (okT t k = decide (t.getD q 0 < y)) := by show _ = _; rw [HO1.out, hq, decide_eq_true h0, decide_eq_true h1]; simp
                generalize t.getD q 0 = z at cz HO2
                by_cases hlt : z < y
                · have HT : Hid (okT t k = true) := by show _ = _; rw [HO2.out]; exact decide_eq_true hlt
                  have HN' : Hid (∀ j, j < k + 1 → okT t j = true) := fun j hj => by by_cases e : j = k; (· rw [e]; exact HT.out); (· exact HO.out j (by omega))
                  have hd : decide (y ≤ z) = false := by rw [decide_eq_false_iff_not]; omega
                  clear HO1 HT HO2 hq
                  go_wp2_with fail
                  go_round
                  case rel => exact ⟨k + 1, by omega, by go_num, HN'⟩
                  case measure => simp [intOf]; omega
                · have HF : Hid (R = false) := HN2.out k hkl (by rw [HO2.out]; exact decide_eq_false hlt)
                  have hd : decide (y ≤ z) = true := by rw [decide_eq_true_eq]; omega
                  clear HO1 HO2 hq hlt
                  go_wp2_with fail
                  go_ret
                  exact ⟨ret_bool HF.out.symm, k1⟩
            · have HF : Hid (R = false) := HN2.out k hkl (by rw [HO1.out, decide_eq_false h1]; simp)
              have hd : decide (1024 ≤ y) = true := by rw [decide_eq_true_eq]; omega
              clear HO1 h1
              go_wp2_with fail
              go_ret
              exact ⟨ret_bool HF.out.symm, k1⟩
          · have HF : Hid (R = false) := HN2.out k hkl (by rw [HO1.out, decide_eq_false h0]; simp)
            have hd : decide (y < 0) = true := by rw [decide_eq_true_eq]; omega
            clear HO1
            go_wp2_with fail
            go_ret
            exact ⟨ret_bool HF.out.symm, k1⟩
        · have hkc : ¬ (k : Int) < (t.length : Int) := by omega
          have HT : Hid (R = true) := HY.out HA.out (fun i hi => HO.out i (by omega))
          go_wp2_with fail
          go_ret
          exact ⟨ret_bool HT.out.symm, k1⟩
end Go.Proofs.Ytjbiknnichfajaa
