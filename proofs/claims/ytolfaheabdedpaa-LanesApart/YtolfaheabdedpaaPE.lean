import Derived.Test.YtolfaheabdedpaaRR
set_option linter.unusedVariables false
set_option linter.unusedSimpArgs false
namespace Go.Proofs.Ytolfaheabdedpaa
open Go.RowKit Go.Shelf
theorem RdS.nil (z : Nat) (w : World) (a : Option Addr) : RdS z w a [] := by intro j hj; simp at hj
theorem Pack_range (a : Option Addr) (c n : Nat) (d : Int) (w : World) (hd : ¬ (0 ≤ d ∧ d ≤ 65536)) :
    Calls Try.prog 8 #[.slice a n c, .int .i64 d] w fun e w' => e = .returned (.tuple #[.slice none 0 0, .int .i64 2]) ∧ w' = w := by
  have h22 := isMany_any d w
  have e22 : (decide ((0 : Int) ≤ d) && decide (d ≤ 65536)) = false := by
    rw [Bool.and_eq_false_iff]
    by_cases h : 0 ≤ d
    · exact .inr (decide_eq_false (fun h2 => hd ⟨h, h2⟩))
    · exact .inl (decide_eq_false h)
  rw [e22] at h22
  clear e22 hd
  go_enter Try.func8, Try.ntmps8
  go_wp2_with (go_at_call 22; refine h22.mono ?_; rintro e w0 ⟨rfl, rfl⟩)
  go_ret2
  exact ⟨rfl, rfl⟩
theorem Pack_bad (a : Option Addr) (c : Nat) (V : List (List Nat)) (d : Nat) (w : World) (hd : d ≤ 65536) (hl : V.length ≤ 5864062014804) (hr : RdS 1 w a V) (hb : badB 1 V d = true) :
    Calls Try.prog 8 #[.slice a V.length c, .int .i64 (d : Nat)] w fun e w' => e = .returned (.tuple #[.slice none 0 0, .int .i64 72]) ∧ Keep w w' := by
  have h22 := isMany_any (d : Int) w
  have e22 : (decide ((0 : Int) ≤ (d : Int)) && decide ((d : Int) ≤ 65536)) = true := by simp; omega
  rw [e22] at h22
  clear e22
  have h23 := firstWrong_any a c V d w (by omega) hr
  rw [hb] at h23
  go_enter Try.func8, Try.ntmps8
  go_wp2_with (first
    | (go_at_call 22; refine h22.mono ?_; rintro e w0 ⟨rfl, rfl⟩)
    | (go_at_call 23; refine h23.mono ?_; rintro e w1 ⟨i, rfl, hi, k1⟩; have hi2 : 0 ≤ i := of_decide_eq_true hi; clear hi))
  go_ret2
  exact ⟨rfl, k1⟩
theorem rPack_range (a : Option Addr) (c n : Nat) (d : Int) (w : World) (hd : ¬ (0 ≤ d ∧ d ≤ 65536)) :
    Calls Try.prog 9 #[.slice a n c, .int .i64 d] w fun e w' => e = .returned (.tuple #[.slice none 0 0, .int .i64 2]) ∧ w' = w := by
  by_cases h : d < 0
  · have hd0 : decide (d < 0) = true := decide_eq_true h
    clear hd
    go_enter Try.func9, Try.ntmps9
    go_wp2_with fail
    go_ret2
    exact ⟨rfl, rfl⟩
  · have hd0 : decide (d < 0) = false := decide_eq_false h
    have hd1 : 65536 < d := by omega
    clear hd
    go_enter Try.func9, Try.ntmps9
    go_wp2_with fail
    go_ret2
    exact ⟨rfl, rfl⟩
set_option maxRecDepth 100000 in
theorem rPack_bad (a : Option Addr) (c : Nat) (V : List (List Nat)) (d : Nat) (w : World) (hd : d ≤ 65536) (hl : V.length ≤ 5864062014804) (hr : RdS 1 w a V) (hb : badB 1 V d = true) :
    Calls Try.prog 9 #[.slice a V.length c, .int .i64 (d : Nat)] w fun e w' => e = .returned (.tuple #[.slice none 0 0, .int .i64 72]) ∧ w' = w := by
  have hdc : (d : Int) ≤ 65536 := by omega
  have hd0 : decide ((d : Int) < 0) = false := decide_eq_false (by omega)
  go_enter Try.func9, Try.ntmps9
  go_wp2_with fail
  go_loop [6] (fun i => ∃ k : Nat, k ≤ V.length ∧ i = .int .i64 k ∧ Hid (∀ j, j < k → (V.getD j []).length = d * 1)) (fun i => V.length - (intOf i).toNat)
  case atStart => exact ⟨0, by omega, rfl, by intro j hj; omega⟩
  case round =>
    obtain ⟨k, hk, rfl, hinv⟩ := hrel
    by_cases hkl : k < V.length
    · have hkc : (k : Int) < (V.length : Int) := by omega
      obtain ⟨b, o, va, n, vc, rfl, c1, hn, -, -, -⟩ := hr k hkl
      by_cases hnd : n = d
      · subst hnd
        have hn2 : Hid (∀ j, j < k + 1 → (V.getD j []).length = n * 1) := by
          intro j hj
          rcases Nat.lt_or_ge j k with h1 | h1
          · exact hinv.out j h1
          · obtain rfl : j = k := by omega
            omega
        clear hn
        go_wp2_with fail
        go_round
        case rel => exact ⟨k + 1, by omega, by go_num, hn2⟩
        case measure => simp [intOf]; omega
      · have hB2 : ((n : Int) != (d : Int)) = true := by simp; omega
        clear hn hnd
        go_wp2_with fail
        go_ret2
        exact ⟨rfl, rfl⟩
    · exfalso
      have := badB_no (V := V) (z := 1) (d := d) (fun i hi => hinv.out i (by omega))
      rw [hb] at this
      cases this
theorem Pack_any (a : Option Addr) (c : Nat) (V : List (List Nat)) (d : Int) (w : World) (hl : V.length ≤ 5864062014804) (hlc : V.length ≤ c) (hr : RdS 1 w a V) :
    Calls Try.prog 8 #[.slice a V.length c, .int .i64 d] w fun e w' => ∃ a' c', e = .returned (.tuple #[.slice a' (pkA V d).length c', .int .i64 (pkE V d)]) ∧ (pkA V d).length ≤ c' ∧ RdS 8 w' a' (pkA V d) ∧ Keep w w' := by
  unfold pkA pkE
  by_cases hd : 0 ≤ d ∧ d ≤ 65536
  · obtain ⟨n, rfl⟩ := Int.eq_ofNat_of_zero_le hd.1
    simp only [if_pos hd, Int.toNat_natCast]
    by_cases hb : badB 1 V n = true
    rotate_left
    · simp only [if_neg hb]
      exact Pack_ok a c V n w (by omega) hl hlc hr (by simpa using hb)
    · simp only [if_pos hb]
      refine (Pack_bad a c V n w (by omega) hl hr hb).mono ?_
      rintro e w' ⟨rfl, k⟩
      exact ⟨none, 0, rfl, Nat.le_refl _, RdS.nil _ _ _, k⟩
  · simp only [if_neg hd]
    refine (Pack_range a c V.length d w hd).mono ?_
    rintro e w' ⟨rfl, rfl⟩
    exact ⟨none, 0, rfl, Nat.le_refl _, RdS.nil _ _ _, Keep.refl _⟩
theorem rPack_any (a : Option Addr) (c : Nat) (V : List (List Nat)) (d : Int) (w : World) (hl : V.length ≤ 5864062014804) (hr : RdS 1 w a V) :
    Calls Try.prog 9 #[.slice a V.length c, .int .i64 d] w fun e w' => ∃ a' c', e = .returned (.tuple #[.slice a' (pkA V d).length c', .int .i64 (pkE V d)]) ∧ (pkA V d).length ≤ c' ∧ RdS 8 w' a' (pkA V d) ∧ Keep w w' := by
  unfold pkA pkE
  by_cases hd : 0 ≤ d ∧ d ≤ 65536
  · obtain ⟨n, rfl⟩ := Int.eq_ofNat_of_zero_le hd.1
    simp only [if_pos hd, Int.toNat_natCast]
    by_cases hb : badB 1 V n = true
    rotate_left
    · simp only [if_neg hb]
      exact rPack_ok a c V n w (by omega) hl hr (by simpa using hb)
    · simp only [if_pos hb]
      refine (rPack_bad a c V n w (by omega) hl hr hb).mono ?_
      rintro e w' ⟨rfl, rfl⟩
      exact ⟨none, 0, rfl, Nat.le_refl _, RdS.nil _ _ _, Keep.refl _⟩
  · simp only [if_neg hd]
    refine (rPack_range a c V.length d w hd).mono ?_
    rintro e w' ⟨rfl, rfl⟩
    exact ⟨none, 0, rfl, Nat.le_refl _, RdS.nil _ _ _, Keep.refl _⟩
end Go.Proofs.Ytolfaheabdedpaa
