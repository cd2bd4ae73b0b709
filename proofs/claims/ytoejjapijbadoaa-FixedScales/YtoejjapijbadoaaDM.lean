set_option linter.unusedVariables false
set_option linter.unusedSimpArgs false
namespace Dv
/-- The product of a guess and the divisor, by halves. -/
theorem qy (q y1 y0 : Nat) : q * (y1 * 4294967296 + y0) = q * y1 * 4294967296 + q * y0 := by
  rw [Nat.mul_add, Nat.mul_assoc]
theorem first {u32 u1 y1 y0 : Nat} (hy1 : 2147483648 ≤ y1) (hy0 : y0 < 4294967296) (hu : u32 < y1 * 4294967296 + y0) (hu1 : u1 < 4294967296) :
    u32 / y1 * y1 + u32 % y1 = u32 ∧ u32 / y1 ≤ 4294967297 ∧ u32 * 4294967296 + u1 < (u32 / y1 + 1) * (y1 * 4294967296 + y0) := by
  have h1 := Nat.div_add_mod' u32 y1
  have h2 := Nat.mod_lt u32 (show 0 < y1 by omega)
  refine ⟨h1, ?_, ?_⟩
  · have : u32 / y1 < 4294967298 := by
      rw [Nat.div_lt_iff_lt_mul (by omega)]
      omega
    omega
  · rw [Nat.add_mul, qy]
    generalize u32 / y1 * y1 = P at *
    omega
theorem more {q r u32 u1 y1 y0 : Nat} (h : q * y1 + r = u32) (hu : u32 < y1 * 4294967296 + y0) (hu1 : u1 < 4294967296)
    (ht : 4294967296 ≤ q ∨ 4294967296 * r + u1 < q * y0) : u32 * 4294967296 + u1 < q * (y1 * 4294967296 + y0) := by
  rcases ht with ht | ht
  · have : 4294967296 * (y1 * 4294967296 + y0) ≤ q * (y1 * 4294967296 + y0) := Nat.mul_le_mul_right _ ht
    omega
  · rw [qy]
    generalize q * y1 = P at *
    omega
theorem step {q r u32 u1 y1 y0 : Nat} (hq : q ≤ 4294967297) (h : q * y1 + r = u32) (hl : u32 * 4294967296 + u1 < q * (y1 * 4294967296 + y0)) :
    0 < q ∧ (q - 1) * y1 + (r + y1) = u32 ∧ q - 1 ≤ 4294967296 ∧ u32 * 4294967296 + u1 < (q - 1 + 1) * (y1 * 4294967296 + y0) := by
  have h0 : 0 < q := by
    rcases Nat.eq_zero_or_pos q with h0 | h0
    · rw [h0, Nat.zero_mul] at hl; omega
    · exact h0
  refine ⟨h0, ?_, by omega, by rw [Nat.sub_add_cancel h0]; exact hl⟩
  obtain ⟨p, rfl⟩ : ∃ p, q = p + 1 := ⟨q - 1, by omega⟩
  rw [Nat.add_mul, Nat.one_mul] at h
  rw [Nat.add_sub_cancel]
  omega
theorem out1 {q r u32 u1 y1 y0 : Nat} (h : q * y1 + r = u32) (ht : q * y0 ≤ 4294967296 * r + u1) : q * (y1 * 4294967296 + y0) ≤ u32 * 4294967296 + u1 := by
  rw [qy]
  generalize q * y1 = P at *
  omega
theorem out2 {q r u1 y0 : Nat} (hq : q ≤ 4294967296) (hy0 : y0 < 4294967296) (hr : 4294967296 ≤ r) : q * y0 ≤ 4294967296 * r + u1 := by
  have h1 : q * y0 ≤ 4294967296 * y0 := Nat.mul_le_mul_right _ hq
  omega
theorem quo {q u y : Nat} (h1 : q * y ≤ u) (h2 : u < (q + 1) * y) : q = u / y ∧ u - q * y = u % y := by
  have hy : 0 < y := by
    rcases Nat.eq_zero_or_pos y with h | h
    · rw [h] at h2; omega
    · exact h
  have e : u / y = q := by
    rw [Nat.div_eq_iff hy]
    rw [Nat.add_mul] at h2
    rw [Nat.mul_comm] at h1 ⊢
    rw [Nat.mul_comm q y] at h2
    omega
  refine ⟨e.symm, ?_⟩
  have := Nat.div_add_mod' u y
  rw [e] at this
  omega
/-- Two halves of a quotient. -/
theorem both {u u0 y q1 q0 : Nat} (hy : 0 < y) (h1 : q1 = u / y) (h0 : q0 = (u % y * 4294967296 + u0) / y) :
    (u * 4294967296 + u0) / y = q1 * 4294967296 + q0 ∧ (u * 4294967296 + u0) % y = (u % y * 4294967296 + u0) % y := by
  have e := Nat.div_add_mod' u y
  have e2 : u * 4294967296 + u0 = (u % y * 4294967296 + u0) + y * (q1 * 4294967296) := by
    rw [h1]
    generalize u % y = r at *
    have : u * 4294967296 = (u / y * y + r) * 4294967296 := by rw [e]
    rw [this]
    grind
  rw [e2]
  refine ⟨?_, ?_⟩
  · rw [Nat.add_mul_div_left _ _ hy, h0]
    omega
  · rw [Nat.add_mul_mod_self_left]
/-- Both moved up. -/
theorem moved {U y s : Nat} : (U * 2 ^ s) / (y * 2 ^ s) = U / y ∧ (U * 2 ^ s) % (y * 2 ^ s) / 2 ^ s = U % y := by
  have hp : 0 < 2 ^ s := Nat.two_pow_pos s
  refine ⟨Nat.mul_div_mul_right _ _ hp, ?_⟩
  rw [Nat.mul_mod_mul_right, Nat.mul_div_cancel _ hp]
theorem lowup {lo s : Nat} (hs : s < 64) : lo * 2 ^ s = lo / 2 ^ (64 - s) * 18446744073709551616 + lo * 2 ^ s % 18446744073709551616 := by
  have e : (18446744073709551616 : Nat) = 2 ^ (64 - s) * 2 ^ s := by rw [← Nat.pow_add, show 64 - s + s = 64 by omega]
  have h : lo * 2 ^ s / 18446744073709551616 = lo / 2 ^ (64 - s) := by
    rw [e, Nat.mul_div_mul_right _ _ (Nat.two_pow_pos s)]
  have := Nat.div_add_mod' (lo * 2 ^ s) 18446744073709551616
  rw [h] at this
  exact this.symm
end Dv
