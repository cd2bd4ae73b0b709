import Ieee.Arith
set_option linter.unusedVariables false
set_option linter.unusedSimpArgs false
namespace Go.Proofs.Ytaogjiffnebnkaa
/-- How far a rung lies above nought, in units of the least number. -/
def mg (r : Nat) : Nat := (if r < 4503599627370496 then r else 4503599627370496 + r % 4503599627370496) * 2 ^ (r / 4503599627370496 - 1)
theorem mg_step (r : Nat) : mg r < mg (r + 1) := by
  have key : ∀ B : Nat, 0 < B → ∀ r, (if r < B then r else B + r % B) * 2 ^ (r / B - 1) < (if r + 1 < B then r + 1 else B + (r + 1) % B) * 2 ^ ((r + 1) / B - 1) := by
    intro B hB r
    by_cases h1 : r + 1 < B
    · rw [if_pos (by omega), if_pos h1, Nat.div_eq_of_lt (by omega), Nat.div_eq_of_lt h1]; omega
    · by_cases h2 : r + 1 = B
      · rw [if_pos (by omega), if_neg h1, Nat.div_eq_of_lt (by omega), h2, Nat.mod_self, Nat.div_self hB]; simp; omega
      · have h3 : B ≤ r := by omega
        rw [if_neg (by omega), if_neg h1]
        have hq : 1 ≤ r / B := (Nat.le_div_iff_mul_le hB).2 (by omega)
        have hm := Nat.mod_lt r hB
        have e := Nat.div_add_mod r B
        by_cases h4 : r % B + 1 < B
        · have e1 : (r + 1) / B = r / B := by
            rw [Nat.div_eq_iff hB, Nat.mul_comm]; omega
          have e2 : (r + 1) % B = r % B + 1 := by
            rw [Nat.add_mod]
            by_cases hb : B = 1
            · omega
            · rw [Nat.mod_eq_of_lt (a := 1) (by omega), Nat.mod_eq_of_lt h4]
          rw [e1, e2]
          exact Nat.mul_lt_mul_of_pos_right (by omega) (Nat.two_pow_pos _)
        · have e1 : (r + 1) / B = r / B + 1 := by
            rw [Nat.div_eq_iff hB, Nat.mul_comm, Nat.mul_add]; omega
          have e2 : (r + 1) % B = 0 := by
            have : r + 1 = B * (r / B + 1) := by rw [Nat.mul_add]; omega
            rw [this, Nat.mul_mod_right]
          rw [e1, e2, Nat.add_zero, Nat.add_sub_cancel]
          have : 2 ^ (r / B) = 2 * 2 ^ (r / B - 1) := by
            rw [show r / B = (r / B - 1) + 1 by omega, Nat.pow_succ, Nat.add_sub_cancel, Nat.mul_comm]
          rw [this, ← Nat.mul_assoc]
          exact Nat.mul_lt_mul_of_pos_right (by omega) (Nat.two_pow_pos _)
  exact key 4503599627370496 (by omega) r
theorem mg_lt {r s : Nat} (h : r < s) : mg r < mg s := by
  induction s with
  | zero => omega
  | succ s ih =>
    by_cases e : r = s
    · rw [e]; exact mg_step s
    · exact Nat.lt_trans (ih (by omega)) (mg_step s)
theorem mg_zero : mg 0 = 0 := by simp [mg]
theorem mg_pos {r : Nat} (h : 0 < r) : 0 < mg r := by have := mg_lt h; rw [mg_zero] at this; exact this
/-- A word's sign and amount. -/
def negB (x : Nat) : Bool := x / 9223372036854775808 % 2 == 1
def sv (x : Nat) : Int := if negB x then -(mg (x % 9223372036854775808) : Int) else (mg (x % 9223372036854775808) : Int)
/-- The key, counted from nought's. -/
def ky (x : Nat) : Int := if negB x then -((x % 9223372036854775808 : Nat) : Int) else ((x % 9223372036854775808 : Nat) : Int)
theorem sv_lt {x y : Nat} (h : ky x < ky y) : sv x < sv y := by
  unfold ky at h
  unfold sv
  generalize x % 9223372036854775808 = a at h ⊢
  generalize y % 9223372036854775808 = b at h ⊢
  generalize negB x = u at h ⊢
  generalize negB y = v at h ⊢
  have hm : ∀ r s, r < s → (mg r : Int) < mg s := fun r s h => by exact_mod_cast mg_lt h
  have h0 : ∀ r, (0 : Int) ≤ mg r := fun r => by omega
  have hp : ∀ r, 0 < r → (0 : Int) < mg r := fun r h => by exact_mod_cast mg_pos h
  cases u <;> cases v <;> simp only [if_true, if_false, Bool.false_eq_true] at h ⊢
  · exact hm _ _ (by omega)
  · omega
  · by_cases ha : 0 < a
    · have := hp _ ha; have := h0 b; omega
    · have := hp b (by omega); have := h0 a; omega
  · have := hm b a (by omega); omega
theorem sv_eq {x y : Nat} (h : ky x = ky y) : sv x = sv y := by
  unfold ky at h
  unfold sv
  generalize x % 9223372036854775808 = a at h ⊢
  generalize y % 9223372036854775808 = b at h ⊢
  generalize negB x = u at h ⊢
  generalize negB y = v at h ⊢
  have hz : mg 0 = 0 := mg_zero
  cases u <;> cases v <;> simp only [if_true, if_false, Bool.false_eq_true] at h ⊢
  · have : a = b := by omega
    rw [this]
  · obtain ⟨rfl, rfl⟩ : a = 0 ∧ b = 0 := by omega
    omega
  · obtain ⟨rfl, rfl⟩ : a = 0 ∧ b = 0 := by omega
    omega
  · have : a = b := by omega
    rw [this]
theorem cmp_lt {a b : Int} (h : a < b) : compare a b = .lt := by rw [Int.compare_eq_lt]; exact h
theorem cmp_sv (x y : Nat) : compare (sv x) (sv y) = compare (ky x) (ky y) := by
  rcases Int.lt_trichotomy (ky x) (ky y) with h | h | h
  · rw [Int.compare_eq_lt.2 h, Int.compare_eq_lt.2 (sv_lt h)]
  · rw [Int.compare_eq_eq.2 h, Int.compare_eq_eq.2 (sv_eq h)]
  · rw [Int.compare_eq_gt.2 h, Int.compare_eq_gt.2 (sv_lt h)]
@[reducible] def isNaN (x : Nat) : Prop := 9218868437227405312 < x % 9223372036854775808
theorem read_eq (x : Nat) : Ieee.double.read x = if x % 9223372036854775808 < 9218868437227405312 then .number (negB x) (if x % 9223372036854775808 < 4503599627370496 then x % 9223372036854775808 else 4503599627370496 + x % 9223372036854775808 % 4503599627370496) (-1074 + ((x % 9223372036854775808 / 4503599627370496 - 1 : Nat) : Int))
    else if x % 9223372036854775808 = 9218868437227405312 then .infinity (negB x) else .nan (negB x) (x % 9223372036854775808 - 9218868437227405312) := by
  have e1 : Ieee.double.signWeight = 9223372036854775808 := by decide
  have e2 : Ieee.double.binade = 4503599627370496 := by decide
  have e3 : Ieee.double.infRung = 9218868437227405312 := by decide
  have e4 : Ieee.double.leastPlace = -1074 := by decide
  unfold Ieee.Format.read
  simp only [e1, e2, e3, e4]
  change (if _ then Ieee.Datum.number (negB x) _ _ else _) = _
  by_cases h1 : x % 9223372036854775808 < 4503599627370496
  · rw [if_pos h1, if_pos (by omega), if_pos h1, Nat.div_eq_of_lt h1]; rfl
  · rw [if_neg h1]
    by_cases h2 : x % 9223372036854775808 < 9218868437227405312
    · rw [if_pos h2, if_pos h2, if_neg h1]; rfl
    · rw [if_neg h2, if_neg h2]; rfl
theorem cmp_scale (a b : Int) (k : Nat) : compare (a * 2 ^ k) (b * 2 ^ k) = compare a b := by
  have hp : (0 : Int) < 2 ^ k := Int.pow_pos (by omega)
  rcases Int.lt_trichotomy a b with h | h | h
  · rw [Int.compare_eq_lt.2 h, Int.compare_eq_lt.2 (Int.mul_lt_mul_of_pos_right h hp)]
  · rw [Int.compare_eq_eq.2 h, Int.compare_eq_eq.2 (by rw [h])]
  · rw [Int.compare_eq_gt.2 h, Int.compare_eq_gt.2 (Int.mul_lt_mul_of_pos_right h hp)]
theorem order_num (s t : Bool) (m n i j : Nat) (p : Int) : Ieee.Datum.order (.number s m (p + i)) (.number t n (p + j)) =
    some (compare (if s then -((m * 2 ^ i : Nat) : Int) else ((m * 2 ^ i : Nat) : Int)) (if t then -((n * 2 ^ j : Nat) : Int) else ((n * 2 ^ j : Nat) : Int))) := by
  simp only [Ieee.Datum.order, Ieee.signed, Nat.shiftLeft_eq]
  congr 1
  have hb : (min (p + (i : Int)) (p + j)) = p + ((min i j : Nat) : Int) := by omega
  rw [hb, show (p + (i : Int) - (p + ((min i j : Nat) : Int))).toNat = i - min i j by omega, show (p + (j : Int) - (p + ((min i j : Nat) : Int))).toNat = j - min i j by omega]
  rw [← cmp_scale _ _ (min i j)]
  have e : ∀ (u : Bool) (m k b : Nat), b ≤ k → (if u = true then -((m * 2 ^ (k - b) : Nat) : Int) else ((m * 2 ^ (k - b) : Nat) : Int)) * 2 ^ b = (if u = true then -((m * 2 ^ k : Nat) : Int) else ((m * 2 ^ k : Nat) : Int)) := by
    intro u m k b h
    have h2 : m * 2 ^ (k - b) * 2 ^ b = m * 2 ^ k := by rw [Nat.mul_assoc, ← Nat.pow_add, Nat.sub_add_cancel h]
    have h3 : ((m * 2 ^ (k - b) : Nat) : Int) * 2 ^ b = ((m * 2 ^ k : Nat) : Int) := by rw [← h2]; push_cast; rfl
    cases u
    · simp only [Bool.false_eq_true, if_false]; exact h3
    · simp only [if_true]; rw [Int.neg_mul, h3]
  rw [e s m i _ (Nat.min_le_left _ _), e t n j _ (Nat.min_le_right _ _)]
/-- Two numbers that are no NaN compare as their keys do. -/
theorem order_ky (x y : Nat) (hx : ¬ isNaN x) (hy : ¬ isNaN y) : Ieee.double.order x y = some (compare (ky x) (ky y)) := by
  unfold isNaN at hx hy
  unfold Ieee.Format.order
  rw [read_eq, read_eq]
  by_cases h1 : x % 9223372036854775808 < 9218868437227405312
  · rw [if_pos h1]
    by_cases h2 : y % 9223372036854775808 < 9218868437227405312
    · rw [if_pos h2, order_num, ← cmp_sv]; rfl
    · rw [if_neg h2, if_pos (c := y % 9223372036854775808 = 9218868437227405312) (by omega)]
      simp only [Ieee.Datum.order]
      congr 1
      unfold ky
      cases negB x <;> cases negB y <;> simp only [if_true, if_false, Bool.false_eq_true]
      · rw [Int.compare_eq_lt.2]; omega
      · rw [Int.compare_eq_gt.2]; omega
      · rw [Int.compare_eq_lt.2]; omega
      · rw [Int.compare_eq_gt.2]; omega
  · rw [if_neg h1, if_pos (c := x % 9223372036854775808 = 9218868437227405312) (by omega)]
    by_cases h2 : y % 9223372036854775808 < 9218868437227405312
    · rw [if_pos h2]
      simp only [Ieee.Datum.order]
      congr 1
      unfold ky
      cases negB x <;> cases negB y <;> simp only [if_true, if_false, Bool.false_eq_true]
      · rw [Int.compare_eq_gt.2]; omega
      · rw [Int.compare_eq_gt.2]; omega
      · rw [Int.compare_eq_lt.2]; omega
      · rw [Int.compare_eq_lt.2]; omega
    · rw [if_neg h2, if_pos (c := y % 9223372036854775808 = 9218868437227405312) (by omega)]
      simp only [Ieee.Datum.order]
      congr 1
      unfold ky
      cases negB x <;> cases negB y <;> simp only [if_true, if_false, Bool.false_eq_true]
      · rw [Int.compare_eq_eq.2 (by omega)]; rfl
      · rw [Int.compare_eq_gt.2 (by omega)]; rfl
      · rw [Int.compare_eq_lt.2 (by omega)]; rfl
      · rw [Int.compare_eq_eq.2 (by omega)]; rfl
theorem order_nan (x y : Nat) (h : isNaN x ∨ isNaN y) : Ieee.double.order x y = none := by
  unfold isNaN at h
  unfold Ieee.Format.order
  rw [read_eq, read_eq]
  by_cases h1 : 9218868437227405312 < x % 9223372036854775808
  · rw [if_neg (by omega), if_neg (by omega)]; rfl
  · have h2 : 9218868437227405312 < y % 9223372036854775808 := by rcases h with h | h <;> omega
    rw [if_neg (c := y % 9223372036854775808 < 9218868437227405312) (by omega), if_neg (c := y % 9223372036854775808 = 9218868437227405312) (by omega)]
    by_cases h3 : x % 9223372036854775808 < 9218868437227405312
    · rw [if_pos h3]; rfl
    · rw [if_neg h3, if_pos (by omega)]; rfl
end Go.Proofs.Ytaogjiffnebnkaa
