import Derived.Test.YtmhgpgdekaeegaaDoorProg
set_option linter.unusedVariables false
set_option linter.unusedSimpArgs false
namespace Go.Proofs.YtmhgpgdekaeegaaDoor.Bi
/-- Bit i of words of 64. -/
def hs (l : List Nat) (i : Nat) : Bool := (l.getD (i / 64) 0).testBit (i % 64)
def W64 (l : List Nat) : Prop := ∀ x ∈ l, x < 18446744073709551616
theorem W64_getD {l : List Nat} (h : W64 l) (j : Nat) : l.getD j 0 < 18446744073709551616 := by
  by_cases hj : j < l.length
  · exact h _ (by simp [List.getD, hj])
  · simp [List.getD, List.getElem?_eq_none (Nat.le_of_not_lt hj)]
theorem W64_set {l : List Nat} (h : W64 l) (j : Nat) {x : Nat} (hx : x < 18446744073709551616) : W64 (l.set j x) := by
  intro y hy
  rcases List.mem_or_eq_of_mem_set hy with h1 | h1
  · exact h y h1
  · rw [h1]; exact hx
theorem W64_rep (n : Nat) : W64 (List.replicate n 0) := by
  intro x hx
  rw [List.mem_replicate] at hx
  omega
theorem hs_out {l : List Nat} {i : Nat} (h : 64 * l.length ≤ i) : hs l i = false := by
  unfold hs
  rw [show l.getD (i / 64) 0 = 0 by simp [List.getD, List.getElem?_eq_none (show l.length ≤ i / 64 by omega)]]
  simp
theorem hs_rep (n i : Nat) : hs (List.replicate n 0) i = false := by
  unfold hs
  have : (List.replicate n 0).getD (i / 64) 0 = 0 := by
    simp only [List.getD, List.getElem?_replicate]; split <;> rfl
  rw [this]; simp
theorem hs_ext {l m : List Nat} (hl : l.length = m.length) (h1 : W64 l) (h2 : W64 m) (h : ∀ i, i < 64 * l.length → hs l i = hs m i) : l = m := by
  apply List.ext_getElem hl
  intro j a b
  have ha : l.getD j 0 = l[j] := by simp [List.getD, a]
  have hb : m.getD j 0 = m[j] := by simp [List.getD, b]
  rw [← ha, ← hb]
  apply Nat.eq_of_testBit_eq
  intro k
  by_cases hk : k < 64
  · have := h (64 * j + k) (by omega)
    unfold hs at this
    rw [show (64 * j + k) / 64 = j by omega, show (64 * j + k) % 64 = k by omega] at this
    exact this
  · have g : (2 : Nat) ^ 64 ≤ 2 ^ k := Nat.pow_le_pow_right (by omega) (by omega)
    rw [Nat.testBit_lt_two_pow (Nat.lt_of_lt_of_le (W64_getD h1 j) g), Nat.testBit_lt_two_pow (Nat.lt_of_lt_of_le (W64_getD h2 j) g)]
theorem hs_set {l : List Nat} {k : Nat} (hk : k < l.length) (x i : Nat) : hs (l.set k x) i = if i / 64 = k then x.testBit (i % 64) else hs l i := by
  unfold hs
  by_cases h : i / 64 = k
  · rw [if_pos h, h]; simp [List.getD, hk]
  · rw [if_neg h]
    have : (l.set k x).getD (i / 64) 0 = l.getD (i / 64) 0 := by
      simp only [List.getD, List.getElem?_set]; rw [if_neg (by omega)]
    rw [this]
theorem hs_or {l : List Nat} {k : Nat} (hk : k < l.length) (x i : Nat) : hs (l.set k (l.getD k 0 ||| x)) i = (hs l i || (decide (i / 64 = k) && x.testBit (i % 64))) := by
  rw [hs_set hk]
  by_cases h : i / 64 = k
  · rw [if_pos h, Nat.testBit_or, decide_eq_true h, Bool.true_and]; unfold hs; rw [h]
  · rw [if_neg h, decide_eq_false h, Bool.false_and, Bool.or_false]
theorem testBit_run (s k j : Nat) : ((2 ^ k - 1) * 2 ^ s).testBit j = (decide (s ≤ j) && decide (j < s + k)) := by
  rw [Nat.testBit_mul_two_pow, Nat.testBit_two_pow_sub_one]
  by_cases h : s ≤ j
  · rw [decide_eq_true h, Bool.true_and, Bool.true_and, decide_eq_decide]; omega
  · rw [decide_eq_false h, Bool.false_and, Bool.false_and]
theorem or_lt {x y : Nat} (hx : x < 18446744073709551616) (hy : y < 18446744073709551616) : x ||| y < 18446744073709551616 := Nat.or_lt_two_pow (n := 64) hx hy
theorem bit_lt {k : Nat} (h : k < 64) : 2 ^ k < 18446744073709551616 := Nat.pow_lt_pow_right (a := 2) (m := k) (n := 64) (by omega) h
/-- Bits put in, from s on, k of them. -/
theorem hs_run {l : List Nat} {a b : Nat} (h : a / 64 < l.length) (hb : b ≤ (a / 64 + 1) * 64) (j : Nat) : hs (l.set (a / 64) (l.getD (a / 64) 0 ||| (2 ^ (b - a) - 1) * 2 ^ (a % 64))) j = (hs l j || decide (a ≤ j ∧ j < b)) := by
  rw [hs_or h, testBit_run]
  congr 1
  rw [← Bool.decide_and, ← Bool.decide_and, decide_eq_decide]
  omega
theorem run_lt {a b : Nat} (hb : b ≤ (a / 64 + 1) * 64) (h : a ≤ b) : (2 ^ (b - a) - 1) * 2 ^ (a % 64) < 18446744073709551616 := by
  have h1 : (2 ^ (b - a) - 1) * 2 ^ (a % 64) < 2 ^ (b - a) * 2 ^ (a % 64) := Nat.mul_lt_mul_of_pos_right (by have := Nat.two_pow_pos (b - a); omega) (Nat.two_pow_pos _)
  rw [← Nat.pow_add] at h1
  exact Nat.lt_of_lt_of_le h1 (Nat.pow_le_pow_right (n := 2) (i := b - a + a % 64) (j := 64) (by omega) (by omega))
end Go.Proofs.YtmhgpgdekaeegaaDoor.Bi
