import Derived.Test.YtagfkmbljkglpaaC2
set_option linter.unusedVariables false
set_option linter.unusedSimpArgs false
namespace Go.Proofs.Ytagfkmbljkglpaa
open Lb Nr
theorem fl_lt {N D c : Nat} {e : Int} (hD : 0 < D) (h : (sz N : Int) - (sz D : Int) - e + 1 ≤ c) : fl N D e < 2 ^ c := by
  unfold fl
  rw [Nat.div_lt_iff_lt_mul (sB_pos hD e)]
  unfold sA sB
  have a := sz_lt N
  obtain ⟨b, b0⟩ := sz_ge hD
  have h1 : N * 2 ^ (-e).toNat < 2 ^ sz N * 2 ^ (-e).toNat := Nat.mul_lt_mul_of_pos_right a (Nat.two_pow_pos _)
  have h2 : 2 ^ (sz D - 1) * 2 ^ e.toNat ≤ D * 2 ^ e.toNat := Nat.mul_le_mul_right _ b
  have h3 : 2 ^ sz N * 2 ^ (-e).toNat ≤ 2 ^ c * (2 ^ (sz D - 1) * 2 ^ e.toNat) := by
    rw [← Nat.pow_add, ← Nat.pow_add, ← Nat.pow_add]
    exact Nat.pow_le_pow_right (by omega) (by omega)
  have h4 := Nat.mul_le_mul_left (2 ^ c) h2
  omega
theorem fl_ge {N D c : Nat} {e : Int} (hN : 0 < N) (hD : 0 < D) (h : (c : Int) ≤ (sz N : Int) - (sz D : Int) - e - 1) : 2 ^ c ≤ fl N D e := by
  unfold fl
  rw [Nat.le_div_iff_mul_le (sB_pos hD e)]
  unfold sA sB
  have a := sz_lt D
  obtain ⟨b, b0⟩ := sz_ge hN
  have h1 : D * 2 ^ e.toNat ≤ 2 ^ sz D * 2 ^ e.toNat := Nat.mul_le_mul_right _ (Nat.le_of_lt a)
  have h2 : 2 ^ (sz N - 1) * 2 ^ (-e).toNat ≤ N * 2 ^ (-e).toNat := Nat.mul_le_mul_right _ b
  have h3 : 2 ^ c * (2 ^ sz D * 2 ^ e.toNat) ≤ 2 ^ (sz N - 1) * 2 ^ (-e).toNat := by
    rw [← Nat.pow_add, ← Nat.pow_add, ← Nat.pow_add]
    exact Nat.pow_le_pow_right (by omega) (by omega)
  have h4 := Nat.mul_le_mul_left (2 ^ c) h1
  omega
theorem p53 : (2 : Nat) ^ 53 = 9007199254740992 := rfl
theorem far_high {N D : Nat} (hN : 0 < N) (hD : 0 < D) (h : 1100 < (sz N : Int) - (sz D : Int)) {E : Int} (hE : IsE N D E) : wb (rup (sA N E) (sB D E)) E = 9218868437227405312 := by
  have hg : 971 < E := by
    refine Int.not_le.1 fun hle => ?_
    have := fl_ge (c := 53) (e := E) hN hD (by omega)
    rw [p53] at this
    have := hE.2.1
    omega
  obtain ⟨a, b⟩ := small_E hD hE
  have c : ¬ rup (sA N E) (sB D E) < 4503599627370496 := fun hh => by have := b hh; omega
  unfold wb
  rw [if_pos (by omega)]
  omega
theorem far_low {N D : Nat} (hD : 0 < D) (h : (sz N : Int) - (sz D : Int) < -1100) {E : Int} (hE : IsE N D E) : wb (rup (sA N E) (sB D E)) E = 0 := by
  have hg : E = -1074 := by
    rcases hE.2.2 with g | g
    · exact g
    · exfalso
      have := fl_lt (N := N) (c := 53) (e := E - 1) hD (by have := hE.1; omega)
      rw [p53] at this
      omega
  subst hg
  have h0 := fl_lt (N := N) (c := 0) (e := -1074 - 1) hD (by omega)
  have hr : rup (sA N (-1074)) (sB D (-1074)) = 0 := by
    have e := rup_ratio (sB_pos hD (-1074)) (sB_pos hD (-1074)) (rfl : sA N (-1074) * sB D (-1074) = sA N (-1074) * sB D (-1074))
    have h1 : 2 * sA N (-1074) < sB D (-1074) := by
      have h2 : fl N D (-1074 - 1) = 0 := by omega
      unfold fl at h2
      rw [Nat.div_eq_zero_iff] at h2
      rcases h2 with h2 | h2
      · have := sB_pos hD (-1074 - 1); omega
      · unfold sA sB at h2 ⊢
        obtain ⟨k, hk⟩ : ∃ k : Nat, (-(-1074 : Int)).toNat = k := ⟨_, rfl⟩
        have hk1 : (-(-1074 - 1 : Int)).toNat = k + 1 := by omega
        rw [hk1, show ((-1074 - 1 : Int)).toNat = 0 by decide, Nat.pow_succ] at h2
        rw [hk, show ((-1074 : Int)).toNat = 0 by decide]
        clear hk hk1
        generalize (2 : Nat) ^ k = p at *
        rw [← Nat.mul_assoc] at h2
        omega
    unfold rup
    have h3 : sA N (-1074) / sB D (-1074) = 0 := Nat.div_eq_of_lt (by omega)
    have h4 : sA N (-1074) % sB D (-1074) = sA N (-1074) := Nat.mod_eq_of_lt (by omega)
    rw [h3, h4, if_neg (by omega)]
  rw [hr]
  rfl
/-- The program's own exponent and mantissa. -/
theorem main_E {N D : Nat} (hN : 0 < N) (hD : 0 < D) {e1 : Int} (he : e1 = max ((sz N : Int) - (sz D : Int) - 53) (-1074) - 2) :
    fl N D e1 < 72057594037927936 ∧ ∃ d : Nat, (d = 2 ∨ d = 3) ∧ max ((sz (fl N D e1) : Int) - 53) 2 = (d : Int) ∧ IsE N D (e1 + d) ∧
      rup (sA N (e1 + d)) (sB D (e1 + d)) = rup (if sA N e1 % sB D e1 = 0 then fl N D e1 else fl N D e1 ||| 1) (2 ^ d) := by
  have hround : ∀ d : Nat, (d = 2 ∨ d = 3) → rup (sA N (e1 + d)) (sB D (e1 + d)) = rup (if sA N e1 % sB D e1 = 0 then fl N D e1 else fl N D e1 ||| 1) (2 ^ d) := by
    intro d hd
    obtain ⟨p, hp, hp2⟩ : ∃ p, 0 < p ∧ 2 ^ d = 4 * p := by
      rcases hd with rfl | rfl
      · exact ⟨1, by omega, rfl⟩
      · exact ⟨2, by omega, rfl⟩
    rw [rup_add hD, hp2]
    have h := sticky (q := fl N D e1) (b := sB D e1) (r := sA N e1 % sB D e1) hp (Nat.mod_lt _ (sB_pos hD e1))
    have e : fl N D e1 * sB D e1 + sA N e1 % sB D e1 = sA N e1 := Nat.div_add_mod' _ _
    rw [e] at h
    exact h.symm
  have hf : ∀ d : Nat, fl N D (e1 + d) = fl N D e1 / 2 ^ d := fun d => fl_add hD e1 d
  have p56 : (2 : Nat) ^ 56 = 72057594037927936 := rfl
  have p55 : (2 : Nat) ^ 55 = 36028797018963968 := rfl
  have p54 : (2 : Nat) ^ 54 = 18014398509481984 := rfl
  by_cases hc : -1074 ≤ (sz N : Int) - (sz D : Int) - 53
  · have he2 : e1 = (sz N : Int) - (sz D : Int) - 55 := by omega
    have g1 := fl_ge (c := 54) (e := e1) hN hD (by omega)
    have g2 := fl_lt (N := N) (c := 56) (e := e1) hD (by omega)
    refine ⟨by omega, ?_⟩
    by_cases h5 : fl N D e1 < 36028797018963968
    · have s1 : sz (fl N D e1) = 55 := sz_of (s := 54) g1 (by omega)
      refine ⟨2, .inl rfl, by rw [s1]; rfl, ⟨by omega, ?_, .inr ?_⟩, hround 2 (.inl rfl)⟩
      · rw [hf]; omega
      · rw [show e1 + (2 : Nat) - 1 = e1 + (1 : Nat) by omega, hf]; omega
    · have s1 : sz (fl N D e1) = 56 := sz_of (s := 55) (by omega) g2
      refine ⟨3, .inr rfl, by rw [s1]; rfl, ⟨by omega, ?_, .inr ?_⟩, hround 3 (.inr rfl)⟩
      · rw [hf]; omega
      · rw [show e1 + (3 : Nat) - 1 = e1 + (2 : Nat) by omega, hf]; omega
  · have he2 : e1 = -1076 := by omega
    have g2 := fl_lt (N := N) (c := 55) (e := e1) hD (by omega)
    have s1 : sz (fl N D e1) ≤ 55 := sz_le g2
    refine ⟨by omega, 2, .inl rfl, by omega, ⟨by omega, ?_, .inl (by omega)⟩, hround 2 (.inl rfl)⟩
    rw [hf]; omega
end Go.Proofs.Ytagfkmbljkglpaa
