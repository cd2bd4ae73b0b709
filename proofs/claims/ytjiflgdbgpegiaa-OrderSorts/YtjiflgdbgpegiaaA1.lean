import Derived.Test.YtjiflgdbgpegiaaProg
import Derived.Test.YtjiflgdbgpegiaaFl
import Derived.WalkKit
import Derived.WalkSpells
import Derived.WalkLawsBesides
import Derived.Deep.Draws
import Derived.Deep.QuietTactic
import Derived.BigQuiet
import Derived.Laws.Externs
set_option linter.unusedVariables false
set_option linter.unusedSimpArgs false
namespace Go.Proofs.Ytjiflgdbgpegiaa
open Go.RowKit
/-- An equation laid aside. -/
def Hid (p : Prop) : Prop := p
theorem Hid.out {p : Prop} (h : Hid p) : p := h
theorem f64from (x : Nat) (w : World) : (callFunc 15 #[.int .u64 (x : Nat)]).run Try.prog w = .ok (.value (.float .f64 x)) w := by
  rw [run_callFunc_extern Try.func15 (by kernel_rfl) (by kernel_rfl) (by kernel_rfl) (e := Extern.MathFloatBits.float64frombits) (by kernel_rfl)]
  rfl
theorem f64bits (x : Nat) (w : World) : (callFunc 51 #[.float .f64 x]).run Try.prog w = .ok (.value (.int .u64 (x : Nat))) w := by
  rw [run_callFunc_extern Try.func51 (by kernel_rfl) (by kernel_rfl) (by kernel_rfl) (e := Extern.MathFloatBits.float64bits) (by kernel_rfl)]
  rfl
theorem ret_int {k : IntKind} {a b : Int} (h : a = b) : Ending.returned (.int k a) = .returned (.int k b) := by rw [h]
theorem ret_bool {a b : Bool} (h : a = b) : Ending.returned (.bool a) = .returned (.bool b) := by rw [h]
/-- The key of a number's bits. -/
def key (x : Nat) : Nat := if 9218868437227405312 < x % 9223372036854775808 then 18437736874454810625 else if x < 9223372036854775808 then 9218868437227405312 + x else 9218868437227405312 - x % 9223372036854775808
theorem key_le (x : Nat) : key x ≤ 18437736874454810625 := by
  unfold key; split
  · omega
  · split <;> omega
theorem andnot (x : Nat) (h : x < 18446744073709551616) : bits .andNot .u64 (x : Int) 9223372036854775808 = ((x % 9223372036854775808 : Nat) : Int) := by
  have := u64_andNot_nat x 9223372036854775808 h (by omega)
  rw [show ((9223372036854775808 : Nat) : Int) = 9223372036854775808 from rfl] at this
  rw [this, show 18446744073709551615 - 9223372036854775808 = 2 ^ 63 - 1 by decide, Nat.and_two_pow_sub_one_eq_mod]
theorem key_nan {x : Nat} (h : 9218868437227405312 < x % 9223372036854775808) : key x = 18437736874454810625 := by unfold key; rw [if_pos h]
theorem key_pos {x : Nat} (h : ¬ 9218868437227405312 < x % 9223372036854775808) (h2 : x < 9223372036854775808) : key x = 9218868437227405312 + x := by unfold key; rw [if_neg h, if_pos h2]
theorem key_neg {x : Nat} (h : ¬ 9218868437227405312 < x % 9223372036854775808) (h2 : ¬ x < 9223372036854775808) : key x = 9218868437227405312 - x % 9223372036854775808 := by unfold key; rw [if_neg h, if_neg h2]
theorem Key_any (x : Nat) (w : World) (hx : x < 18446744073709551616) :
    Calls Try.prog 14 #[.float .f64 x] w fun e w' => e = .returned (.int .u64 (key x : Nat)) ∧ w' = w := by
  have hb := f64bits x
  have ha := andnot x hx
  by_cases h1 : 9218868437227405312 < x % 9223372036854775808
  · have Hk : Hid (key x = _) := key_nan h1
    obtain ⟨a, e⟩ : ∃ a, x % 9223372036854775808 = a := ⟨_, rfl⟩
    rw [e] at h1 ha; clear e
    have h1' : (9218868437227405312 : Int) < (a : Int) := by omega
    go_enter Try.func14, Try.ntmps14
    go_wp2
    go_ret
    exact ⟨ret_int (by rw [Hk.out]; rfl), rfl⟩
  · by_cases h2 : x < 9223372036854775808
    · have Hk : Hid (key x = _) := key_pos h1 h2
      rw [Nat.mod_eq_of_lt h2] at h1 ha
      have h1' : (x : Int) ≤ 9218868437227405312 := by omega
      go_enter Try.func14, Try.ntmps14
      go_wp2
      go_ret
      exact ⟨ret_int (by rw [Hk.out]; omega), rfl⟩
    · have Hk : Hid (key x = _) := key_neg h1 h2
      obtain ⟨a, e⟩ : ∃ a, x % 9223372036854775808 = a := ⟨_, rfl⟩
      rw [e] at h1 ha Hk
      have h1' : (a : Int) ≤ 9218868437227405312 := by omega
      have h2' : ((x : Int) == (a : Int)) = false := by rw [beq_eq_false_iff_ne]; omega
      clear e
      go_enter Try.func14, Try.ntmps14
      go_wp2
      go_ret
      exact ⟨ret_int (by rw [Hk.out]; omega), rfl⟩
theorem rKey_any (x : Nat) (w : World) (hx : x < 18446744073709551616) :
    Calls Try.prog 16 #[.int .u64 (x : Nat)] w fun e w' => e = .returned (.int .u64 (key x : Nat)) ∧ w' = w := by
  have ha := andnot x hx
  by_cases h1 : 9218868437227405312 < x % 9223372036854775808
  · have Hk : Hid (key x = _) := key_nan h1
    obtain ⟨a, e⟩ : ∃ a, x % 9223372036854775808 = a := ⟨_, rfl⟩
    rw [e] at h1 ha; clear e
    have h1' : (9218868437227405312 : Int) < (a : Int) := by omega
    go_enter Try.func16, Try.ntmps16
    go_wp2
    go_ret
    exact ⟨ret_int (by rw [Hk.out]; rfl), rfl⟩
  · by_cases h2 : x < 9223372036854775808
    · have Hk : Hid (key x = _) := key_pos h1 h2
      rw [Nat.mod_eq_of_lt h2] at h1 ha
      have h1' : (x : Int) ≤ 9218868437227405312 := by omega
      go_enter Try.func16, Try.ntmps16
      go_wp2
      go_ret
      exact ⟨ret_int (by rw [Hk.out]; omega), rfl⟩
    · have Hk : Hid (key x = _) := key_neg h1 h2
      obtain ⟨a, e⟩ : ∃ a, x % 9223372036854775808 = a := ⟨_, rfl⟩
      rw [e] at h1 ha Hk
      have h1' : (a : Int) ≤ 9218868437227405312 := by omega
      have h2' : ((x : Int) == (a : Int)) = false := by rw [beq_eq_false_iff_ne]; omega
      clear e
      go_enter Try.func16, Try.ntmps16
      go_wp2
      go_ret
      exact ⟨ret_int (by rw [Hk.out]; omega), rfl⟩
end Go.Proofs.Ytjiflgdbgpegiaa
