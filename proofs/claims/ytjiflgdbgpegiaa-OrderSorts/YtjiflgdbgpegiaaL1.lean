import Derived.Test.YtjiflgdbgpegiaaA6
set_option linter.unusedVariables false
set_option linter.unusedSimpArgs false
namespace Go.Proofs.Ytjiflgdbgpegiaa
open Go.RowKit
theorem key_ky (x : Nat) (hx : x < 18446744073709551616) (h : ¬ isNaN x) : (key x : Int) = 9218868437227405312 + ky x := by
  unfold isNaN at h
  unfold key ky negB
  rw [if_neg h]
  by_cases h2 : x < 9223372036854775808
  · rw [if_pos h2, Nat.div_eq_of_lt h2, Nat.mod_eq_of_lt h2]; simp
  · rw [if_neg h2, show x / 9223372036854775808 % 2 = 1 by omega]; simp only [beq_self_eq_true, if_true]; omega
/-- The three answers of two numbers, by their keys. -/
theorem ord_lt {x y : Nat} (hx : x < 18446744073709551616) (hy : y < 18446744073709551616) (nx : ¬ isNaN x) (ny : ¬ isNaN y) (h : key x < key y) : FloatKind.f64.format.order x y = some .lt := by
  have a := key_ky x hx nx
  have b := key_ky y hy ny
  show Ieee.double.order x y = _
  rw [order_ky x y nx ny, Int.compare_eq_lt.2 (by omega)]
theorem ord_gt {x y : Nat} (hx : x < 18446744073709551616) (hy : y < 18446744073709551616) (nx : ¬ isNaN x) (ny : ¬ isNaN y) (h : key y < key x) : FloatKind.f64.format.order x y = some .gt := by
  have a := key_ky x hx nx
  have b := key_ky y hy ny
  show Ieee.double.order x y = _
  rw [order_ky x y nx ny, Int.compare_eq_gt.2 (by omega)]
theorem ord_eq {x y : Nat} (hx : x < 18446744073709551616) (hy : y < 18446744073709551616) (nx : ¬ isNaN x) (ny : ¬ isNaN y) (h : key x = key y) : FloatKind.f64.format.order x y = some .eq := by
  have a := key_ky x hx nx
  have b := key_ky y hy ny
  show Ieee.double.order x y = _
  rw [order_ky x y nx ny, Int.compare_eq_eq.2 (by omega)]
theorem ord_nan {x y : Nat} (h : isNaN x ∨ isNaN y) : FloatKind.f64.format.order x y = none := order_nan x y h
theorem nan_key {x : Nat} : isNaN x ↔ key x = 18437736874454810625 := by
  have := key_nan_iff x
  rw [decide_eq_decide] at this
  exact this
/-- What At says of a key that is one. -/
theorem atB_key {k : Nat} (h : k ≤ 18437736874454810625) : key (atB 9221120237041090561 k) = k := by
  by_cases h2 : k = 18437736874454810625
  · rw [h2, (at_nan _).1]; decide
  · by_cases h3 : k < 9218868437227405312
    · rw [(at_neg _ h3).1, key_neg (by omega) (by omega)]; omega
    · rw [(at_pos _ (by omega) (by omega)).1, key_pos (by omega) (by omega)]; omega
theorem atB_lt' (k : Nat) : atB 9221120237041090561 k < 18446744073709551616 := by
  unfold atB; split
  · omega
  · split
    · omega
    · split <;> omega
theorem atE_ok {k : Nat} (h : k ≤ 18437736874454810625) : atE k = 0 := by unfold atE; rw [if_neg (by omega)]
theorem Signbit_any (x : Nat) (w : World) (hx : x < 18446744073709551616) :
    Calls Try.prog 47 #[.float .f64 x] w fun e w' => e = .returned (.bool (decide (9223372036854775808 ≤ x))) ∧ w' = w := by
  have hb := f64bits x
  have hw : Hid (wrap64 (x : Int) < 0 ↔ 9223372036854775808 ≤ x) := by
    show _ ↔ _
    unfold wrap64; omega
  go_enter Try.func47, Try.ntmps47
  go_wp2
  go_ret
  refine ⟨ret_bool ?_, rfl⟩
  rw [decide_eq_decide]
  exact hw.out
theorem begins_any (w : World) : Calls Try.prog 46 #[] w fun e w' => e = .returned (.bool true) ∧ w' = w := by
  have h1 := fun w => Next_any 4607182418800017408 w (by omega)
  have h2 := fun w => Compare_any 4607182418800017408 4611686018427387904 w (by omega) (by omega)
  have h3 := fun w => Key_any 0 w (by omega)
  have h4 := f64bits 4607182418800017409
  rw [show nxB 9221120237041090561 (key 4607182418800017408) = 4607182418800017409 by decide, show nxE (key 4607182418800017408) = 0 by decide] at h1
  rw [show cmpV (key 4607182418800017408) (key 4611686018427387904) = -1 by decide] at h2
  rw [show key 0 = 9218868437227405312 by decide] at h3
  go_enter Try.func46, Try.ntmps46
  go_wp2_with first
    | (go_at_call 19; refine (h1 _).mono ?_; rintro e w' ⟨rfl, rfl⟩)
    | (go_at_call 18; refine (h2 _).mono ?_; rintro e w' ⟨rfl, rfl⟩)
    | (go_at_call 14; refine (h3 _).mono ?_; rintro e w' ⟨rfl, rfl⟩)
  all_goals (go_ret; exact ⟨rfl, rfl⟩)
end Go.Proofs.Ytjiflgdbgpegiaa
