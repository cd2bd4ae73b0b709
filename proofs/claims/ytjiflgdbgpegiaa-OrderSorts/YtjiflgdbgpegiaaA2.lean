import Derived.Test.YtjiflgdbgpegiaaA1
set_option linter.unusedVariables false
set_option linter.unusedSimpArgs false
namespace Go.Proofs.Ytjiflgdbgpegiaa
open Go.RowKit
/-- The bits of a key's number; of a NaN's key 'n'. -/
def atB (n k : Nat) : Nat := if 18437736874454810625 < k then 0 else if k = 18437736874454810625 then n else if k < 9218868437227405312 then 18442240474082181120 - k else k - 9218868437227405312
def atE (k : Nat) : Int := if 18437736874454810625 < k then 2 else 0
theorem at_far (n : Nat) {k : Nat} (h : 18437736874454810625 < k) : atB n k = 0 ∧ atE k = 2 := by unfold atB atE; rw [if_pos h, if_pos h]; exact ⟨rfl, rfl⟩
theorem at_nan (n : Nat) : atB n 18437736874454810625 = n ∧ atE 18437736874454810625 = 0 := by unfold atB atE; rw [if_neg (by omega), if_pos rfl, if_neg (by omega)]; exact ⟨rfl, rfl⟩
theorem at_neg (n : Nat) {k : Nat} (h : k < 9218868437227405312) : atB n k = 18442240474082181120 - k ∧ atE k = 0 := by unfold atB atE; rw [if_neg (by omega), if_neg (by omega), if_pos h, if_neg (by omega)]; exact ⟨rfl, rfl⟩
theorem at_pos (n : Nat) {k : Nat} (h : 9218868437227405312 ≤ k) (h2 : k < 18437736874454810625) : atB n k = k - 9218868437227405312 ∧ atE k = 0 := by unfold atB atE; rw [if_neg (by omega), if_neg (by omega), if_neg (by omega), if_neg (by omega)]; exact ⟨rfl, rfl⟩
theorem or63 (j : Nat) (h : j < 9223372036854775808) : bits .or .u64 9223372036854775808 (j : Int) = ((9223372036854775808 + j : Nat) : Int) := by
  have := u64_or_nat 9223372036854775808 j (by omega) (by omega)
  rw [show ((9223372036854775808 : Nat) : Int) = 9223372036854775808 from rfl] at this
  rw [this, nat_join 63 9223372036854775808 j (by decide) h]
theorem or63' (j : Nat) (h : j < 9223372036854775808) : bits .or .u64 (j : Int) 9223372036854775808 = ((9223372036854775808 + j : Nat) : Int) := by
  have := u64_or_nat j 9223372036854775808 (by omega) (by omega)
  rw [show ((9223372036854775808 : Nat) : Int) = 9223372036854775808 from rfl] at this
  rw [this, Nat.or_comm, nat_join 63 9223372036854775808 j (by decide) h]
theorem nan_any (w : World) : Calls Try.prog 53 #[] w fun e w' => e = .returned (.float .f64 9221120237041090561) ∧ w' = w := by
  have hf := f64from 9221120237041090561
  rw [show ((9221120237041090561 : Nat) : Int) = 9221120237041090561 from rfl] at hf
  go_enter Try.func53, Try.ntmps53
  go_wp2
  go_ret
  exact ⟨rfl, rfl⟩
theorem At_far (k : Nat) (w : World) (h1 : (18437736874454810625 : Int) < (k : Int)) :
    Calls Try.prog 12 #[.int .u64 (k : Nat)] w fun e w' => e = .returned (.tuple #[.float .f64 0, .int .i64 2]) ∧ w' = w := by
  go_enter Try.func12, Try.ntmps12
  go_wp2
  go_ret2
  exact ⟨rfl, rfl⟩
theorem At_nan (w : World) :
    Calls Try.prog 12 #[.int .u64 18437736874454810625] w fun e w' => e = .returned (.tuple #[.float .f64 9221120237041090561, .int .i64 0]) ∧ w' = w := by
  go_enter Try.func12, Try.ntmps12
  go_wp2_with (go_at_call 53; refine (nan_any _).mono ?_; rintro e w' ⟨rfl, rfl⟩)
  go_ret2
  exact ⟨rfl, rfl⟩
theorem At_neg (k j q : Nat) (w : World) (hq : 9223372036854775808 + j = q) (h1 : (k : Int) + j = 9218868437227405312) (h2 : 0 < j) :
    Calls Try.prog 12 #[.int .u64 (k : Nat)] w fun e w' => e = .returned (.tuple #[.float .f64 q, .int .i64 0]) ∧ w' = w := by
  have hf := f64from q
  have ho := or63 j (by omega)
  rw [hq] at ho
  have hs : (9218868437227405312 : Int) - (k : Int) = (j : Int) := by omega
  have a1 : decide ((k : Int) < 9218868437227405312) = true := by rw [decide_eq_true_eq]; omega
  have a2 : ((k : Int) == 18437736874454810625) = false := by rw [beq_eq_false_iff_ne]; omega
  have a3 : decide ((18437736874454810625 : Int) < (k : Int)) = false := by rw [decide_eq_false_iff_not]; omega
  clear hq
  go_enter Try.func12, Try.ntmps12
  go_wp2_with (simp only [hs, ho])
  go_ret2
  exact ⟨rfl, rfl⟩
theorem At_pos (k q : Nat) (w : World) (h1 : (k : Int) - 9218868437227405312 = q) (h2 : k < 18437736874454810625) :
    Calls Try.prog 12 #[.int .u64 (k : Nat)] w fun e w' => e = .returned (.tuple #[.float .f64 q, .int .i64 0]) ∧ w' = w := by
  have hf := f64from q
  have a1 : decide ((k : Int) < 9218868437227405312) = false := by rw [decide_eq_false_iff_not]; omega
  have a2 : ((k : Int) == 18437736874454810625) = false := by rw [beq_eq_false_iff_ne]; omega
  have a3 : decide ((18437736874454810625 : Int) < (k : Int)) = false := by rw [decide_eq_false_iff_not]; omega
  go_enter Try.func12, Try.ntmps12
  go_wp2_with (simp only [h1])
  go_ret2
  exact ⟨rfl, rfl⟩
theorem At_any (k : Nat) (w : World) :
    Calls Try.prog 12 #[.int .u64 (k : Nat)] w fun e w' => e = .returned (.tuple #[.float .f64 (atB 9221120237041090561 k), .int .i64 (atE k)]) ∧ w' = w := by
  by_cases h1 : 18437736874454810625 < k
  · rw [(at_far _ h1).1, (at_far 0 h1).2]; exact At_far k w (by omega)
  · by_cases h2 : k = 18437736874454810625
    · rw [h2, (at_nan _).1, (at_nan 0).2]; exact At_nan w
    · by_cases h3 : k < 9218868437227405312
      · rw [(at_neg _ h3).1, (at_neg 0 h3).2]; exact At_neg k (9218868437227405312 - k) _ w (by omega) (by omega) (by omega)
      · rw [(at_pos _ (by omega) (by omega)).1, (at_pos 0 (by omega) (by omega)).2]; exact At_pos k _ w (by omega) (by omega)
theorem rAt_far (k : Nat) (w : World) (h1 : (18437736874454810625 : Int) < (k : Int)) :
    Calls Try.prog 13 #[.int .u64 (k : Nat)] w fun e w' => e = .returned (.tuple #[.int .u64 0, .int .i64 2]) ∧ w' = w := by
  go_enter Try.func13, Try.ntmps13
  go_wp2
  go_ret2
  exact ⟨rfl, rfl⟩
theorem rAt_nan (w : World) :
    Calls Try.prog 13 #[.int .u64 18437736874454810625] w fun e w' => e = .returned (.tuple #[.int .u64 9218868437227405313, .int .i64 0]) ∧ w' = w := by
  go_enter Try.func13, Try.ntmps13
  go_wp2
  go_ret2
  exact ⟨rfl, rfl⟩
theorem rAt_neg (k j q : Nat) (w : World) (hq : 9223372036854775808 + j = q) (h1 : (k : Int) + j = 9218868437227405312) (h2 : 0 < j) :
    Calls Try.prog 13 #[.int .u64 (k : Nat)] w fun e w' => e = .returned (.tuple #[.int .u64 (q : Nat), .int .i64 0]) ∧ w' = w := by
  have ho := or63' j (by omega)
  rw [hq] at ho
  have hs : (9218868437227405312 : Int) - (k : Int) = (j : Int) := by omega
  have a1 : decide ((k : Int) < 9218868437227405312) = true := by rw [decide_eq_true_eq]; omega
  have a2 : ((k : Int) == 18437736874454810625) = false := by rw [beq_eq_false_iff_ne]; omega
  have a3 : decide ((18437736874454810625 : Int) < (k : Int)) = false := by rw [decide_eq_false_iff_not]; omega
  clear hq
  go_enter Try.func13, Try.ntmps13
  go_wp2_with (simp only [hs, ho])
  go_ret2
  exact ⟨rfl, rfl⟩
theorem rAt_pos (k q : Nat) (w : World) (h1 : (k : Int) - 9218868437227405312 = q) (h2 : k < 18437736874454810625) :
    Calls Try.prog 13 #[.int .u64 (k : Nat)] w fun e w' => e = .returned (.tuple #[.int .u64 (q : Nat), .int .i64 0]) ∧ w' = w := by
  have a1 : decide ((k : Int) < 9218868437227405312) = false := by rw [decide_eq_false_iff_not]; omega
  have a2 : ((k : Int) == 18437736874454810625) = false := by rw [beq_eq_false_iff_ne]; omega
  have a3 : decide ((18437736874454810625 : Int) < (k : Int)) = false := by rw [decide_eq_false_iff_not]; omega
  go_enter Try.func13, Try.ntmps13
  go_wp2_with (simp only [h1])
  go_ret2
  exact ⟨rfl, rfl⟩
theorem rAt_any (k : Nat) (w : World) :
    Calls Try.prog 13 #[.int .u64 (k : Nat)] w fun e w' => e = .returned (.tuple #[.int .u64 (atB 9218868437227405313 k : Nat), .int .i64 (atE k)]) ∧ w' = w := by
  by_cases h1 : 18437736874454810625 < k
  · rw [(at_far _ h1).1, (at_far 0 h1).2]; exact rAt_far k w (by omega)
  · by_cases h2 : k = 18437736874454810625
    · rw [h2, (at_nan _).1, (at_nan 0).2]; exact rAt_nan w
    · by_cases h3 : k < 9218868437227405312
      · rw [(at_neg _ h3).1, (at_neg 0 h3).2]; exact rAt_neg k (9218868437227405312 - k) _ w (by omega) (by omega) (by omega)
      · rw [(at_pos _ (by omega) (by omega)).1, (at_pos 0 (by omega) (by omega)).2]; exact rAt_pos k _ w (by omega) (by omega)
end Go.Proofs.Ytjiflgdbgpegiaa
