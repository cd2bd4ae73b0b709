import Derived.Test.YtbpfpldahmfjaaaGreatDoorX9
import Derived.Test.YtbpfpldahmfjaaaGreatDoorXA
set_option linter.unusedVariables false
set_option linter.unusedSimpArgs false
namespace Go.Proofs.YtbpfpldahmfjaaaGreatDoor.Li
open Go.RowKit Lb
theorem rup_near {N D R : Nat} (hD : 0 < D) (hR : Sc.rup N D = R) : (R * D ≤ N ∧ 2 * (N - R * D) ≤ D ∧ (2 * (N - R * D) = D → R % 2 = 0)) ∨ (N < R * D ∧ 2 * (R * D - N) ≤ D ∧ (2 * (R * D - N) = D → R % 2 = 0)) := by
  have e := Nat.div_add_mod N D
  have hr := Nat.mod_lt N hD
  unfold Sc.rup at hR
  generalize N / D = q at *
  generalize N % D = r at *
  rw [Nat.mul_comm] at e
  by_cases h : D < 2 * r ∨ 2 * r = D ∧ q % 2 = 1
  · rw [if_pos h] at hR
    right
    rw [← hR, Nat.add_mul, Nat.one_mul]
    generalize q * D = t at *
    refine ⟨by omega, by omega, fun _ => ?_⟩
    omega
  · rw [if_neg h] at hR
    left
    rw [← hR]
    generalize q * D = t at *
    refine ⟨by omega, by omega, fun _ => ?_⟩
    omega
theorem cross {N D : Nat} (hD : 0 < D) : ∃ g, 0 < g ∧ N = g * RN N D ∧ D = g * RD N D := by
  refine ⟨Nat.gcd N D, Nat.gcd_pos_of_pos_right N hD, ?_, ?_⟩
  · unfold RN
    rw [if_neg (by omega)]
    exact (Nat.mul_div_cancel' (Nat.gcd_dvd_left N D)).symm
  · unfold RD
    rw [if_neg (by omega)]
    exact (Nat.mul_div_cancel' (Nat.gcd_dvd_right N D)).symm
theorem lt_of_g {g a b : Nat} (h : g * a < g * b) : a < b := Nat.lt_of_mul_lt_mul_left h
theorem le_of_g {g a b : Nat} (hg : 0 < g) (h : g * a ≤ g * b) : a ≤ b := Nat.le_of_mul_le_mul_left h hg
theorem eq_of_g {g a b : Nat} (hg : 0 < g) (h : g * a = g * b) : a = b := Nat.eq_of_mul_eq_mul_left hg h
theorem ok_math {N D R qn qd A : Nat} {qs vs : Bool} (hD : 0 < D) (hqn : RN N D = qn) (hqd : RD N D = qd) (hR : Sc.rup N D = R) (h : qs = vs ∨ R = 0) (hA : PN qs (!vs) qn (R * qd) = A) : 2 * A < qd ∨ 2 * A = qd ∧ R % 2 = 0 := by
  obtain ⟨g, hg, e1, e2⟩ := cross (N := N) hD
  rw [hqn] at e1
  rw [hqd] at e2
  have eX : R * D = g * (R * qd) := by rw [e2, Nat.mul_left_comm]
  have hA2 : (R * qd ≤ qn ∧ A = qn - R * qd) ∨ (qn < R * qd ∧ A = R * qd - qn) := by
    unfold PN at hA
    by_cases q : qs = !vs
    · rw [if_pos q] at hA
      have : R = 0 := by
        rcases h with h | h
        · rw [h] at q; cases vs <;> cases q
        · exact h
      rw [this] at hA ⊢
      left
      simp at hA ⊢
      omega
    · rw [if_neg q] at hA
      by_cases p : R * qd ≤ qn
      · rw [if_pos p] at hA; exact .inl ⟨p, hA.symm⟩
      · rw [if_neg p] at hA; exact .inr ⟨by omega, hA.symm⟩
  generalize R * qd = X at *
  rcases rup_near hD hR with ⟨a, b, c⟩ | ⟨a, b, c⟩
  · rw [eX] at a b c
    rw [e1] at a b c
    have a2 := le_of_g hg a
    have hAx : A = qn - X := by
      rcases hA2 with q | q
      · exact q.2
      · omega
    rw [← Nat.mul_sub, ← hAx, Nat.mul_left_comm] at b c
    rw [e2] at b c
    have b2 := le_of_g hg b
    by_cases q : 2 * A = qd
    · exact .inr ⟨q, c (by rw [q])⟩
    · left; omega
  · rw [eX] at a b c
    rw [e1] at a b c
    have a2 := lt_of_g a
    have hAx : A = X - qn := by
      rcases hA2 with q | q
      · omega
      · exact q.2
    rw [← Nat.mul_sub, ← hAx, Nat.mul_left_comm] at b c
    rw [e2] at b c
    have b2 := le_of_g hg b
    by_cases q : 2 * A = qd
    · exact .inr ⟨q, c (by rw [q])⟩
    · left; omega
theorem ok_C {A qd R : Nat} (hqd : 0 < qd) (h : 2 * A < qd ∨ 2 * A = qd ∧ R % 2 = 0) : ordV (false && !decide (RN A qd = 0)) (false && !decide (1 = 0)) (RN A qd * 2) (1 * RD A qd) < 0 ∨ ordV (false && !decide (RN A qd = 0)) (false && !decide (1 = 0)) (RN A qd * 2) (1 * RD A qd) = 0 ∧ R % 2 = 0 := by
  obtain ⟨g, hg, e1, e2⟩ := cross (N := A) hqd
  have e : ordV (false && !decide (RN A qd = 0)) (false && !decide (1 = 0)) (RN A qd * 2) (1 * RD A qd) = cmpN (RN A qd * 2) (RD A qd) := by
    unfold ordV
    simp
  rw [e]
  generalize RN A qd = n at *
  generalize RD A qd = d at *
  rw [e1, e2, Nat.mul_left_comm] at h
  unfold cmpN
  rcases h with h | ⟨h, r⟩
  · have := lt_of_g h
    rw [if_pos (by omega)]
    left; decide
  · have := eq_of_g hg h
    rw [if_neg (by omega), if_neg (by omega)]
    exact .inr ⟨rfl, r⟩
theorem bad_math {N D R : Nat} {sg : Bool} (hD : 0 < D) (hR : Sc.rup N D = R) (hE : ¬ Sc.scE sg N D = 0) : (sg = true → 18446744073709551617 * D < 2 * N) ∧ (sg = false → 18446744073709551615 * D ≤ 2 * N) := by
  unfold Sc.scE at hE
  by_cases h1 : N / D ≤ 9223372036854775808
  · rw [if_pos h1, hR] at hE
    unfold Sc.sgE at hE
    cases sg with
    | true =>
      refine ⟨fun _ => ?_, fun h => (by cases h)⟩
      have hb : ¬ R ≤ 9223372036854775808 := fun q => hE (if_pos ⟨rfl, q⟩)
      obtain ⟨k, rfl⟩ : ∃ k, R = 9223372036854775809 + k := ⟨R - 9223372036854775809, by omega⟩
      have em : (9223372036854775809 + k) * D = 9223372036854775809 * D + k * D := Nat.add_mul ..
      have hk : k = 0 ∨ D ≤ k * D := by
        cases k with
        | zero => exact .inl rfl
        | succ k => right; rw [Nat.add_mul, Nat.one_mul]; omega
      rcases rup_near hD hR with ⟨a, b, c⟩ | ⟨a, b, c⟩
      · rw [em] at a
        generalize k * D = t at *
        omega
      · rw [em] at a b c
        rcases hk with hk | hk
        · subst hk
          have c2 : ¬ 2 * (9223372036854775809 * D + 0 * D - N) = D := fun q => by
            have := c q
            simp at this
          omega
        · generalize k * D = t at *
          omega
    | false =>
      refine ⟨fun h => (by cases h), fun _ => ?_⟩
      have hb : ¬ R < 9223372036854775808 := fun q => hE (by rw [if_neg (by simp), if_pos ⟨rfl, q⟩])
      obtain ⟨k, rfl⟩ : ∃ k, R = 9223372036854775808 + k := ⟨R - 9223372036854775808, by omega⟩
      have em : (9223372036854775808 + k) * D = 9223372036854775808 * D + k * D := Nat.add_mul ..
      rcases rup_near hD hR with ⟨a, b, c⟩ | ⟨a, b, c⟩
      · rw [em] at a
        generalize k * D = t at *
        omega
      · rw [em] at a b
        generalize k * D = t at *
        omega
  · have h2 : 9223372036854775809 * D ≤ N := (Nat.le_div_iff_mul_le hD).1 (by omega)
    exact ⟨fun _ => by omega, fun _ => by omega⟩
theorem bad_C {N D qn qd : Nat} {sg qs : Bool} (hD : 0 < D) (hqn : RN N D = qn) (hqd : RD N D = qd) (hN : 0 < N) (hqs : qs = sg) (h : (sg = true → 18446744073709551617 * D < 2 * N) ∧ (sg = false → 18446744073709551615 * D ≤ 2 * N)) :
    0 ≤ ordV (qs && !decide (qn = 0)) (false && !decide (18446744073709551615 = 0)) (qn * 2) (18446744073709551615 * qd) ∨ ordV (qs && !decide (qn = 0)) (true && !decide (18446744073709551617 = 0)) (qn * 2) (18446744073709551617 * qd) < 0 := by
  obtain ⟨g, hg, e1, e2⟩ := cross (N := N) hD
  rw [hqn] at e1
  rw [hqd] at e2
  have hn0 : qn ≠ 0 := fun q => by rw [q] at e1; omega
  subst hqs
  cases qs with
  | true =>
    right
    have h1 := h.1 rfl
    rw [e1, e2, Nat.mul_left_comm, Nat.mul_left_comm 2] at h1
    have h2 := lt_of_g h1
    unfold ordV cmpN
    simp [hn0]
    rw [if_pos (by omega)]
    decide
  | false =>
    left
    have h1 := h.2 rfl
    rw [e1, e2, Nat.mul_left_comm, Nat.mul_left_comm 2] at h1
    have h2 := le_of_g hg h1
    unfold ordV cmpN
    simp
    rw [if_neg (by omega)]
    split <;> decide
end Go.Proofs.YtbpfpldahmfjaaaGreatDoor.Li
