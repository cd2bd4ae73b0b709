import Derived.Test.YtjiflgdbgpegiaaA2
set_option linter.unusedVariables false
set_option linter.unusedSimpArgs false
namespace Go.Proofs.Ytjiflgdbgpegiaa
open Go.RowKit
theorem rNaN_any (x : Nat) (w : World) (hx : x < 18446744073709551616) :
    Calls Try.prog 54 #[.int .u64 (x : Nat)] w fun e w' => e = .returned (.bool (decide (isNaN x))) ∧ w' = w := by
  have ha := andnot x hx
  have hd : Hid (isNaN x ↔ 9218868437227405312 < x % 9223372036854775808) := Iff.rfl
  obtain ⟨a, e⟩ : ∃ a, x % 9223372036854775808 = a := ⟨_, rfl⟩
  rw [e] at ha hd; clear e
  go_enter Try.func54, Try.ntmps54
  go_wp2
  go_ret
  refine ⟨ret_bool ?_, rfl⟩
  rw [decide_eq_decide, hd.out]; omega
theorem is_nan (x v : Nat) (w : World) (hx : x < 18446744073709551616) (hn : isNaN x) (hv : isNaN v) :
    Calls Try.prog 17 #[.float .f64 v, .int .u64 (x : Nat)] w fun e w' => e = .returned (.bool true) ∧ w' = w := by
  have ho : FloatKind.f64.format.order v v = none := order_nan v v (.inl hv)
  have hN := rNaN_any x w hx
  rw [decide_eq_true hn] at hN
  go_enter Try.func17, Try.ntmps17
  go_wp2_with (go_at_call 54; refine hN.mono ?_; rintro e w' ⟨rfl, rfl⟩)
  go_ret
  exact ⟨rfl, rfl⟩
theorem is_num (x : Nat) (w : World) (hx : x < 18446744073709551616) (hn : ¬ isNaN x) :
    Calls Try.prog 17 #[.float .f64 x, .int .u64 (x : Nat)] w fun e w' => e = .returned (.bool true) ∧ w' = w := by
  have hb := f64bits x
  have hN := rNaN_any x w hx
  rw [decide_eq_false hn] at hN
  go_enter Try.func17, Try.ntmps17
  go_wp2_with (go_at_call 54; refine hN.mono ?_; rintro e w' ⟨rfl, rfl⟩)
  go_ret
  exact ⟨rfl, rfl⟩
/-- The bits are the same, or both are NaNs'. -/
def Alk (v x : Nat) : Prop := x < 18446744073709551616 ∧ (v = x ∧ ¬ isNaN x ∨ isNaN v ∧ isNaN x)
theorem is_any {v x : Nat} (h : Alk v x) (w : World) :
    Calls Try.prog 17 #[.float .f64 v, .int .u64 (x : Nat)] w fun e w' => e = .returned (.bool true) ∧ w' = w := by
  obtain ⟨hx, ⟨rfl, hn⟩ | ⟨hv, hn⟩⟩ := h
  · exact is_num v w hx hn
  · exact is_nan x v w hx hn hv
theorem atB_lt (k : Nat) : atB 9218868437227405313 k < 18446744073709551616 := by
  unfold atB; split
  · omega
  · split
    · omega
    · split <;> omega
theorem at_alk (k : Nat) : Alk (atB 9221120237041090561 k) (atB 9218868437227405313 k) := by
  refine ⟨atB_lt k, ?_⟩
  by_cases h1 : 18437736874454810625 < k
  · left; rw [(at_far _ h1).1, (at_far _ h1).1]; exact ⟨rfl, by decide⟩
  · by_cases h2 : k = 18437736874454810625
    · right; rw [h2, (at_nan _).1, (at_nan _).1]; exact ⟨by decide, by decide⟩
    · left
      by_cases h3 : k < 9218868437227405312
      · rw [(at_neg _ h3).1, (at_neg _ h3).1]; exact ⟨rfl, by unfold isNaN; omega⟩
      · rw [(at_pos _ (by omega) (by omega)).1, (at_pos _ (by omega) (by omega)).1]; exact ⟨rfl, by unfold isNaN; omega⟩
theorem zero_alk : Alk 0 0 := ⟨by omega, .inl ⟨rfl, by decide⟩⟩
theorem law_keys (x k : Nat) (w : World) (hx : x < 18446744073709551616) (_ : k < 18446744073709551616) :
    Calls Try.prog 3 #[.int .u64 (x : Nat), .int .u64 (k : Nat)] w fun e w' => e = .returned (.bool true) ∧ w' = w := by
  have h1 := At_any k w
  have h2 := rAt_any k w
  have hf := f64from x
  have h3 := Key_any x w hx
  have h4 := rKey_any x w hx
  have h5 := is_any (at_alk k) w
  generalize atE k = e1 at h1 h2
  generalize atB 9221120237041090561 k = v at h1 h5
  generalize atB 9218868437227405313 k = v2 at h2 h5
  generalize key x = kx at h3 h4
  go_enter Try.func3, Try.ntmps3
  go_wp2_with first
    | (go_at_call 12; refine h1.mono ?_; rintro e w' ⟨rfl, rfl⟩)
    | (go_at_call 13; refine h2.mono ?_; rintro e w' ⟨rfl, rfl⟩)
    | (go_at_call 14; refine h3.mono ?_; rintro e w' ⟨rfl, rfl⟩)
    | (go_at_call 16; refine h4.mono ?_; rintro e w' ⟨rfl, rfl⟩)
    | (go_at_call 17; refine h5.mono ?_; rintro e w' ⟨rfl, rfl⟩)
  all_goals (go_ret; exact ⟨rfl, rfl⟩)
end Go.Proofs.Ytjiflgdbgpegiaa
