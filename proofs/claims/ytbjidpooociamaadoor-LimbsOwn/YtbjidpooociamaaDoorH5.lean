import Derived.Test.YtbjidpooociamaaDoorE3
import Derived.Test.YtbjidpooociamaaDoorD7
set_option linter.unusedVariables false
set_option linter.unusedSimpArgs false
namespace Go.Proofs.YtbjidpooociamaaDoor
open Go.RowKit Lb
/-- One bit more of a division. -/
theorem bit_step (X Y i : Nat) (hY : 0 < Y) (r2 : Nat) (hr : r2 = 2 * (X / 2 ^ (i + 1) % Y) + X / 2 ^ i % 2) :
    (Y ≤ r2 → X / 2 ^ i % Y = r2 - Y ∧ X / 2 ^ i / Y = 2 * (X / 2 ^ (i + 1) / Y) + 1) ∧ (r2 < Y → X / 2 ^ i % Y = r2 ∧ X / 2 ^ i / Y = 2 * (X / 2 ^ (i + 1) / Y)) := by
  have h1 : X / 2 ^ (i + 1) = X / 2 ^ i / 2 := by rw [Nat.pow_succ, Nat.div_div_eq_div_mul]
  rw [h1] at hr ⊢
  clear h1
  generalize X / 2 ^ i = m at hr ⊢
  have h2 := Nat.div_add_mod (m / 2) Y
  have h3 := Nat.mod_lt (m / 2) hY
  generalize m / 2 % Y = r at hr h2 h3 ⊢
  generalize m / 2 / Y = q at h2 ⊢
  have h4 : m = Y * (2 * q) + r2 := by
    have := Nat.div_add_mod m 2
    have h5 : Y * (2 * q) = 2 * (Y * q) := by rw [Nat.mul_left_comm]
    omega
  constructor
  · intro h
    have h6 : m = r2 - Y + Y * (2 * q + 1) := by rw [Nat.mul_add, Nat.mul_one]; omega
    constructor
    · rw [h6, Nat.add_mul_mod_self_left, Nat.mod_eq_of_lt (by omega)]
    · rw [h6, Nat.add_mul_div_left _ _ hY, Nat.div_eq_of_lt (by omega), Nat.zero_add]
  · intro h
    constructor
    · rw [h4, Nat.mul_add_mod, Nat.mod_eq_of_lt h]
    · rw [h4, Nat.mul_add_div hY, Nat.div_eq_of_lt h, Nat.add_zero]
theorem val_mod (l : List Nat) (hm : Lim l) : val l % 4294967296 = l.getD 0 0 := by
  cases l with
  | nil => rfl
  | cons x xs => have := hm x (by simp); simp [val]; omega
/-- A limb whose lower bits are still noughts. -/
theorem limb_low (l : List Nat) (hm : Lim l) (q i : Nat) (h : val l = q * 2 ^ (i + 1)) : ∃ t, l.getD (i / 32) 0 = t * 2 ^ (i % 32 + 1) := by
  have h1 := val_mod (l.drop (i / 32)) (Lim_drop hm _)
  rw [val_drop l hm, h] at h1
  have h2 : q * 2 ^ (i + 1) / 4294967296 ^ (i / 32) = q * 2 ^ (i % 32 + 1) := by
    have h3 : 2 ^ (i + 1) = 2 ^ (i % 32 + 1) * 4294967296 ^ (i / 32) := by
      rw [show (4294967296 : Nat) = 2 ^ 32 from rfl, ← Nat.pow_mul, ← Nat.pow_add]
      congr 1; omega
    rw [h3, ← Nat.mul_assoc, Nat.mul_div_cancel _ (Nat.pos_of_ne_zero (by simp))]
  rw [h2] at h1
  have h4 : (l.drop (i / 32)).getD 0 0 = l.getD (i / 32) 0 := by simp [List.getD]
  rw [h4] at h1
  have h5 : (4294967296 : Nat) = 2 ^ (i % 32 + 1) * 2 ^ (31 - i % 32) := by
    rw [← Nat.pow_add, show i % 32 + 1 + (31 - i % 32) = 32 by omega]
  rw [h5, Nat.mul_comm q, Nat.mul_mod_mul_left] at h1
  exact ⟨_, by rw [← h1, Nat.mul_comm]⟩
theorem or_bit (t p : Nat) : (t * 2 ^ (p + 1)) ||| 2 ^ p = t * 2 ^ (p + 1) + 2 ^ p := by
  have := Nat.shiftLeft_add_eq_or_of_lt (b := 2 ^ p) (i := p + 1) (Nat.pow_lt_pow_right (by omega) (by omega)) t
  rw [Nat.shiftLeft_eq] at this
  exact this.symm
theorem set_bit (l : List Nat) (q i : Nat) (h : val l = q * 2 ^ (i + 1)) (hi : i / 32 < l.length) : val (l.set (i / 32) (l.getD (i / 32) 0 + 2 ^ (i % 32))) = (2 * q + 1) * 2 ^ i := by
  have h1 := val_set l (i / 32) (l.getD (i / 32) 0 + 2 ^ (i % 32)) hi
  have h3 : 2 ^ i = 2 ^ (i % 32) * 4294967296 ^ (i / 32) := by
    rw [show (4294967296 : Nat) = 2 ^ 32 from rfl, ← Nat.pow_mul, ← Nat.pow_add]
    congr 1; omega
  rw [Nat.add_mul, ← h3] at h1
  rw [h, Nat.pow_succ] at h1
  have h4 : q * (2 ^ i * 2) = 2 * q * 2 ^ i := by rw [← Nat.mul_assoc, Nat.mul_right_comm, Nat.mul_comm q 2]
  rw [Nat.add_mul, Nat.one_mul]
  omega
end Go.Proofs.YtbjidpooociamaaDoor
