import Derived.Test.YtolfaheabdedpaaUR
set_option linter.unusedVariables false
set_option linter.unusedSimpArgs false
namespace Go.Proofs.Ytolfaheabdedpaa
open Go.RowKit Go.Shelf
theorem Unpack_range (a : Option Addr) (c m : Nat) (n d : Int) (w : World) (hd : ¬ ((0 ≤ d ∧ d ≤ 65536) ∧ 0 ≤ n)) :
    Calls Try.prog 10 #[.slice a m c, .int .i64 n, .int .i64 d] w fun e w' => e = .returned (.tuple #[.slice none 0 0, .int .i64 2]) ∧ w' = w := by
  have h22 := isMany_any d w
  by_cases h : 0 ≤ d ∧ d ≤ 65536
  · have e22 : (decide ((0 : Int) ≤ d) && decide (d ≤ 65536)) = true := by simp; omega
    have hn : n < 0 := by omega
    have hn0 : decide (n < 0) = true := decide_eq_true hn
    rw [e22] at h22
    clear e22 hd h
    go_enter Try.func10, Try.ntmps10
    go_wp2_with (go_at_call 22; refine h22.mono ?_; rintro e w0 ⟨rfl, rfl⟩)
    go_ret2
    exact ⟨rfl, rfl⟩
  · have e22 : (decide ((0 : Int) ≤ d) && decide (d ≤ 65536)) = false := by
      rw [Bool.and_eq_false_iff]
      by_cases h1 : 0 ≤ d
      · exact .inr (decide_eq_false (fun h2 => h ⟨h1, h2⟩))
      · exact .inl (decide_eq_false h1)
    rw [e22] at h22
    clear e22 hd h
    go_enter Try.func10, Try.ntmps10
    go_wp2_with (go_at_call 22; refine h22.mono ?_; rintro e w0 ⟨rfl, rfl⟩)
    go_ret2
    exact ⟨rfl, rfl⟩
theorem Unpack_bad (a : Option Addr) (c : Nat) (G : List (List Nat)) (n d : Nat) (w : World) (hd : d ≤ 65536) (hn : n ≤ 9223372036854775807) (hl : G.length ≤ 17592186044416) (hr : RdS 8 w a G) (hm : ¬ (G.length = many n ∧ badB 8 G d = false)) :
    Calls Try.prog 10 #[.slice a G.length c, .int .i64 (n : Nat), .int .i64 (d : Nat)] w fun e w' => e = .returned (.tuple #[.slice none 0 0, .int .i64 6]) ∧ Keep w w' := by
  have h22 := isMany_any (d : Int) w
  have e22 : (decide ((0 : Int) ≤ (d : Int)) && decide ((d : Int) ≤ 65536)) = true := by simp; omega
  rw [e22] at h22
  have h26 := areGroups_any a c G n d w (by omega) (by omega) hr
  have e26 : (decide (G.length = many n) && !badB 8 G d) = false := by
    rw [Bool.and_eq_false_iff]
    by_cases h1 : G.length = many n
    · right
      cases h2 : badB 8 G d
      · exact absurd ⟨h1, h2⟩ hm
      · rfl
    · exact .inl (decide_eq_false h1)
  rw [e26] at h26
  clear e22 e26 hm
  have hn0 : decide ((n : Int) < 0) = false := decide_eq_false (by omega)
  go_enter Try.func10, Try.ntmps10
  go_wp2_with (first
    | (go_at_call 22; refine h22.mono ?_; rintro e w0 ⟨rfl, rfl⟩)
    | (go_at_call 26; refine h26.mono ?_; rintro e w1 ⟨rfl, k1⟩))
  go_ret2
  exact ⟨rfl, k1⟩
theorem rUnpack_range (a : Option Addr) (c m : Nat) (n d : Int) (w : World) (hd : ¬ ((0 ≤ d ∧ d ≤ 65536) ∧ 0 ≤ n)) :
    Calls Try.prog 11 #[.slice a m c, .int .i64 n, .int .i64 d] w fun e w' => e = .returned (.tuple #[.slice none 0 0, .int .i64 2]) ∧ w' = w := by
  by_cases h : d < 0
  · have hd0 : decide (d < 0) = true := decide_eq_true h
    clear hd
    go_enter Try.func11, Try.ntmps11
    go_wp2_with fail
    go_ret2
    exact ⟨rfl, rfl⟩
  · have hd0 : decide (d < 0) = false := decide_eq_false h
    by_cases h2 : 65536 < d
    · have hd1 : decide (65536 < d) = true := decide_eq_true h2
      clear hd
      go_enter Try.func11, Try.ntmps11
      go_wp2_with fail
      go_ret2
      exact ⟨rfl, rfl⟩
    · have hd1 : decide (65536 < d) = false := decide_eq_false h2
      have hn : n < 0 := by omega
      have hn0 : decide (n < 0) = true := decide_eq_true hn
      clear hd
      go_enter Try.func11, Try.ntmps11
      go_wp2_with fail
      go_ret2
      exact ⟨rfl, rfl⟩
set_option maxRecDepth 100000 in
set_option maxHeartbeats 2000000 in
theorem rUnpack_bad (a : Option Addr) (c : Nat) (G : List (List Nat)) (n d : Nat) (w : World) (hd : d ≤ 65536) (hn : n ≤ 9223372036854775807) (hl : G.length ≤ 17592186044416) (hr : RdS 8 w a G) (hm : ¬ (G.length = many n ∧ badB 8 G d = false)) :
    Calls Try.prog 11 #[.slice a G.length c, .int .i64 (n : Nat), .int .i64 (d : Nat)] w fun e w' => e = .returned (.tuple #[.slice none 0 0, .int .i64 6]) ∧ w' = w := by
  have hdc : (d : Int) ≤ 65536 := by omega
  have hd0 : decide ((d : Int) < 0) = false := decide_eq_false (by omega)
  have hd1 : decide (65536 < (d : Int)) = false := decide_eq_false (by omega)
  have hn0 : decide ((n : Int) < 0) = false := decide_eq_false (by omega)
  have hnc : (n : Int) ≤ 9223372036854775807 := by omega
  by_cases h8 : 0 < n % 8
  · have hr8 : 0 < (n : Int) % 8 := by omega
    by_cases hG : G.length = n / 8 + 1
    · have hbad : badB 8 G d = true := by
        cases h2 : badB 8 G d
        · exact absurd ⟨by rw [hG]; unfold many; omega, h2⟩ hm
        · rfl
      have hB : ((G.length : Int) != (n : Int) / 8 + 1) = false := by simp; omega
      have hB2 : ((G.length : Int) == (n : Int) / 8 + 1) = true := by simp; omega
      replace hG : Hid _ := hG
      clear hm
      go_enter Try.func11, Try.ntmps11
      go_wp2_with fail
      go_loop [9] (fun i => ∃ k : Nat, k ≤ G.length ∧ i = .int .i64 k ∧ Hid (∀ j, j < k → (G.getD j []).length = d * 8)) (fun i => G.length - (intOf i).toNat)
      case atStart => exact ⟨0, by omega, rfl, by intro j hj; omega⟩
      case round =>
        obtain ⟨k, hk, rfl, hinv⟩ := hrel
        by_cases hkl : k < G.length
        · have hkc : (k : Int) < (G.length : Int) := by omega
          obtain ⟨b, o, va, m, vc, rfl, c1, hm1, -, -, -⟩ := hr k hkl
          by_cases hnd : m = d
          · subst hnd
            have hn2 : Hid (∀ j, j < k + 1 → (G.getD j []).length = m * 8) := by
              intro j hj
              rcases Nat.lt_or_ge j k with h1 | h1
              · exact hinv.out j h1
              · obtain rfl : j = k := by omega
                omega
            clear hm1
            go_wp2_with fail
            go_round
            case rel => exact ⟨k + 1, by omega, by go_num, hn2⟩
            case measure => simp [intOf]; omega
          · have hB3 : ((m : Int) != (d : Int)) = true := by simp; omega
            clear hm1 hnd
            go_wp2_with fail
            go_ret2
            exact ⟨rfl, rfl⟩
        · exfalso
          have := badB_no (V := G) (z := 8) (d := d) (fun i hi => hinv.out i (by omega))
          rw [hbad] at this
          cases this
    · have hB : ((G.length : Int) != (n : Int) / 8 + 1) = true := by simp; omega
      have hB2 : ((G.length : Int) == (n : Int) / 8 + 1) = false := by rw [beq_eq_false_iff_ne]; omega
      clear hm hG
      go_enter Try.func11, Try.ntmps11
      go_wp2_with fail
      go_ret2
      exact ⟨rfl, rfl⟩
  · have hr8 : ¬ 0 < (n : Int) % 8 := by omega
    by_cases hG : G.length = n / 8
    · have hbad : badB 8 G d = true := by
        cases h2 : badB 8 G d
        · exact absurd ⟨by rw [hG]; unfold many; omega, h2⟩ hm
        · rfl
      have hB : ((G.length : Int) != (n : Int) / 8) = false := by simp; omega
      have hB2 : ((G.length : Int) == (n : Int) / 8) = true := by simp; omega
      replace hG : Hid _ := hG
      clear hm
      go_enter Try.func11, Try.ntmps11
      go_wp2_with fail
      go_loop [9] (fun i => ∃ k : Nat, k ≤ G.length ∧ i = .int .i64 k ∧ Hid (∀ j, j < k → (G.getD j []).length = d * 8)) (fun i => G.length - (intOf i).toNat)
      case atStart => exact ⟨0, by omega, rfl, by intro j hj; omega⟩
      case round =>
        obtain ⟨k, hk, rfl, hinv⟩ := hrel
        by_cases hkl : k < G.length
        · have hkc : (k : Int) < (G.length : Int) := by omega
          obtain ⟨b, o, va, m, vc, rfl, c1, hm1, -, -, -⟩ := hr k hkl
          by_cases hnd : m = d
          · subst hnd
            have hn2 : Hid (∀ j, j < k + 1 → (G.getD j []).length = m * 8) := by
              intro j hj
              rcases Nat.lt_or_ge j k with h1 | h1
              · exact hinv.out j h1
              · obtain rfl : j = k := by omega
                omega
            clear hm1
            go_wp2_with fail
            go_round
            case rel => exact ⟨k + 1, by omega, by go_num, hn2⟩
            case measure => simp [intOf]; omega
          · have hB3 : ((m : Int) != (d : Int)) = true := by simp; omega
            clear hm1 hnd
            go_wp2_with fail
            go_ret2
            exact ⟨rfl, rfl⟩
        · exfalso
          have := badB_no (V := G) (z := 8) (d := d) (fun i hi => hinv.out i (by omega))
          rw [hbad] at this
          cases this
    · have hB : ((G.length : Int) != (n : Int) / 8) = true := by simp; omega
      have hB2 : ((G.length : Int) == (n : Int) / 8) = false := by rw [beq_eq_false_iff_ne]; omega
      clear hm hG
      go_enter Try.func11, Try.ntmps11
      go_wp2_with fail
      go_ret2
      exact ⟨rfl, rfl⟩
/-- What Unpack says: the error, and the vectors. -/
def upE (G : List (List Nat)) (n d : Int) : Int := if (0 ≤ d ∧ d ≤ 65536) ∧ 0 ≤ n then (if G.length = many n.toNat ∧ badB 8 G d.toNat = false then 0 else 6) else 2
def upA (G : List (List Nat)) (n d : Int) : List (List Nat) := if (0 ≤ d ∧ d ≤ 65536) ∧ 0 ≤ n then (if G.length = many n.toNat ∧ badB 8 G d.toNat = false then upk G n.toNat d.toNat else []) else []
theorem Unpack_any (a : Option Addr) (c : Nat) (G : List (List Nat)) (n d : Int) (w : World) (hn : n ≤ 9223372036854775807) (hl : G.length ≤ 17592186044416) (hbig : G.length = many n.toNat → n.toNat ≤ 5864062014804) (hr : RdS 8 w a G) :
    Calls Try.prog 10 #[.slice a G.length c, .int .i64 n, .int .i64 d] w fun e w' => ∃ a' c', e = .returned (.tuple #[.slice a' (upA G n d).length c', .int .i64 (upE G n d)]) ∧ (upA G n d).length ≤ c' ∧ RdS 1 w' a' (upA G n d) ∧ Keep w w' := by
  unfold upA upE
  by_cases hd : (0 ≤ d ∧ d ≤ 65536) ∧ 0 ≤ n
  · obtain ⟨d, rfl⟩ := Int.eq_ofNat_of_zero_le hd.1.1
    obtain ⟨n, rfl⟩ := Int.eq_ofNat_of_zero_le hd.2
    simp only [if_pos hd, Int.toNat_natCast] at hbig ⊢
    by_cases hm : G.length = many n ∧ badB 8 G d = false
    · simp only [if_pos hm]
      exact Unpack_ok a c G n d w (by omega) (hbig hm.1) hl hr hm.1 hm.2
    · simp only [if_neg hm]
      refine (Unpack_bad a c G n d w (by omega) (by omega) hl hr hm).mono ?_
      rintro e w' ⟨rfl, k⟩
      exact ⟨none, 0, rfl, Nat.le_refl _, RdS.nil _ _ _, k⟩
  · simp only [if_neg hd]
    refine (Unpack_range a c G.length n d w hd).mono ?_
    rintro e w' ⟨rfl, rfl⟩
    exact ⟨none, 0, rfl, Nat.le_refl _, RdS.nil _ _ _, Keep.refl _⟩
theorem rUnpack_any (a : Option Addr) (c : Nat) (G : List (List Nat)) (n d : Int) (w : World) (hn : n ≤ 9223372036854775807) (hl : G.length ≤ 17592186044416) (hbig : G.length = many n.toNat → n.toNat ≤ 5864062014804) (hr : RdS 8 w a G) :
    Calls Try.prog 11 #[.slice a G.length c, .int .i64 n, .int .i64 d] w fun e w' => ∃ a' c', e = .returned (.tuple #[.slice a' (upA G n d).length c', .int .i64 (upE G n d)]) ∧ (upA G n d).length ≤ c' ∧ RdS 1 w' a' (upA G n d) ∧ Keep w w' := by
  unfold upA upE
  by_cases hd : (0 ≤ d ∧ d ≤ 65536) ∧ 0 ≤ n
  · obtain ⟨d, rfl⟩ := Int.eq_ofNat_of_zero_le hd.1.1
    obtain ⟨n, rfl⟩ := Int.eq_ofNat_of_zero_le hd.2
    simp only [if_pos hd, Int.toNat_natCast] at hbig ⊢
    by_cases hm : G.length = many n ∧ badB 8 G d = false
    · simp only [if_pos hm]
      exact rUnpack_ok a c G n d w (by omega) (hbig hm.1) hl hr hm.1 hm.2
    · simp only [if_neg hm]
      refine (rUnpack_bad a c G n d w (by omega) (by omega) hl hr hm).mono ?_
      rintro e w' ⟨rfl, k⟩
      exact ⟨none, 0, rfl, Nat.le_refl _, RdS.nil _ _ _, k ▸ Keep.refl _⟩
  · simp only [if_neg hd]
    refine (rUnpack_range a c G.length n d w hd).mono ?_
    rintro e w' ⟨rfl, rfl⟩
    exact ⟨none, 0, rfl, Nat.le_refl _, RdS.nil _ _ _, Keep.refl _⟩
end Go.Proofs.Ytolfaheabdedpaa
