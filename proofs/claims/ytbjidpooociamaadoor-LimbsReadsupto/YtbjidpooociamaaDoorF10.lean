import Derived.Test.YtbjidpooociamaaDoorF9
namespace Go.Proofs.YtbjidpooociamaaDoor
open Go.RowKit Lb
theorem dw_two : ∀ (j h v : Nat), dw (h + j) v = dw h (v / 10 ^ j) ++ dw j v
  | 0, h, v => by simp [dw]
  | j + 1, h, v => by
    rw [← Nat.add_assoc, dw, dw_two j h (v / 10), dw, Nat.div_div_eq_div_mul, Nat.pow_succ, Nat.mul_comm 10, List.append_assoc]
theorem dw_mod : ∀ (j v : Nat), dw j (v % 10 ^ j) = dw j v
  | 0, v => by simp [dw]
  | j + 1, v => by
    have h1 : v % 10 ^ (j + 1) / 10 = v / 10 % 10 ^ j := by
      rw [Nat.pow_succ, Nat.mul_comm, Nat.mod_mul_right_div_self]
    have h2 : v % 10 ^ (j + 1) % 10 = v % 10 := by
      rw [Nat.pow_succ]
      exact Nat.mod_mul_left_mod v (10 ^ j) 10
    rw [dw, dw, h1, h2, dw_mod j (v / 10)]
/-- The digits of the two parts of a halved number. -/
theorem dw_halves (h v : Nat) : dw (2 * h) v = dw h (v / 10 ^ h) ++ dw h (v % 10 ^ h) := by
  rw [show 2 * h = h + h by omega, dw_two, dw_mod]
end Go.Proofs.YtbjidpooociamaaDoor
