import Derived.Test.YtmhgpgdekaeegaaDoorProg
import Derived.Test.YtmhgpgdekaeegaaDoorOA3
import Ieee.Arith
import Derived.WalkKit
import Derived.WalkSpells
import Derived.WalkLawsBesides
import Derived.Deep.Draws
import Derived.Deep.QuietTactic
import Derived.BigQuiet
import Derived.Laws.Externs
set_option linter.unusedVariables false
set_option linter.unusedSimpArgs false
namespace Go.Proofs.YtmhgpgdekaeegaaDoor
open Go.RowKit
/-- -1, 0 or 1. -/
def cmpV (a b : Nat) : Int := if a < b then -1 else if b < a then 1 else 0
theorem cmpNaN (x : Nat) (w : World) : Calls Tryd.prog 30 #[.int .u64 (x : Nat)] w fun e w' => e = .returned (.bool false) ∧ w' = w := by
  go_enter Tryd.func30, Tryd.ntmps30
  go_wp2
  go_ret
  exact ⟨rfl, rfl⟩
theorem cmp_any (a b : Nat) (w : World) : Calls Tryd.prog 20 #[.int .u64 (a : Nat), .int .u64 (b : Nat)] w fun e w' => e = .returned (.int .i64 (cmpV a b)) ∧ w' = w := by
  rcases Nat.lt_trichotomy a b with h | h | h
  · have Hv : Hid (cmpV a b = -1) := by show cmpV a b = -1; unfold cmpV; rw [if_pos h]
    have a1 : decide ((a : Int) < (b : Int)) = true := by rw [decide_eq_true_eq]; omega
    go_enter Tryd.func20, Tryd.ntmps20
    go_wp2_with (go_at_call 30; refine (cmpNaN _ _).mono ?_; rintro e w' ⟨rfl, rfl⟩)
    go_ret
    exact ⟨ret_int Hv.out.symm, rfl⟩
  · subst h
    have Hv : Hid (cmpV a a = 0) := by show cmpV a a = 0; unfold cmpV; rw [if_neg (by omega), if_neg (by omega)]
    have a1 : decide ((a : Int) < (a : Int)) = false := by rw [decide_eq_false_iff_not]; omega
    go_enter Tryd.func20, Tryd.ntmps20
    go_wp2_with (go_at_call 30; refine (cmpNaN _ _).mono ?_; rintro e w' ⟨rfl, rfl⟩)
    go_ret
    exact ⟨ret_int Hv.out.symm, rfl⟩
  · have Hv : Hid (cmpV a b = 1) := by show cmpV a b = 1; unfold cmpV; rw [if_neg (by omega), if_pos h]
    have a1 : decide ((a : Int) < (b : Int)) = false := by rw [decide_eq_false_iff_not]; omega
    have a2 : decide ((b : Int) < (a : Int)) = true := by rw [decide_eq_true_eq]; omega
    go_enter Tryd.func20, Tryd.ntmps20
    go_wp2_with (go_at_call 30; refine (cmpNaN _ _).mono ?_; rintro e w' ⟨rfl, rfl⟩)
    go_ret
    exact ⟨ret_int Hv.out.symm, rfl⟩
theorem Compare_any (x y : Nat) (w : World) (hx : x < 18446744073709551616) (hy : y < 18446744073709551616) :
    Calls Tryd.prog 10 #[.float .f64 x, .float .f64 y] w fun e w' => e = .returned (.int .i64 (cmpV (key x) (key y))) ∧ w' = w := by
  go_enter Tryd.func10, Tryd.ntmps10
  go_wp2_with first
    | (go_at_call 12; refine (Key_any _ _ (by assumption)).mono ?_; rintro e w' ⟨rfl, rfl⟩)
    | (go_at_call 20; refine (cmp_any _ _ _).mono ?_; rintro e w' ⟨rfl, rfl⟩)
  go_ret
  exact ⟨rfl, rfl⟩
theorem key_nan_iff (x : Nat) : decide (isNaN x) = decide (key x = 18437736874454810625) := by
  rw [decide_eq_decide]
  unfold isNaN key
  split
  · simp only [*]
  · split <;> omega
end Go.Proofs.YtmhgpgdekaeegaaDoor
