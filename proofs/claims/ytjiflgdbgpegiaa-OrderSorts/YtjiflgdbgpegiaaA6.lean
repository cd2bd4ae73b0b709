import Derived.Test.YtjiflgdbgpegiaaA5
set_option linter.unusedVariables false
set_option linter.unusedSimpArgs false
namespace Go.Proofs.Ytjiflgdbgpegiaa
open Go.RowKit
theorem rMiddle_any (x y : Nat) (w : World) (hx : x < 18446744073709551616) (hy : y < 18446744073709551616) :
    Calls Try.prog 23 #[.int .u64 (x : Nat), .int .u64 (y : Nat)] w fun e w' => e = .returned (.tuple #[.int .u64 (midB 9218868437227405313 (key x) (key y) : Nat), .int .i64 (midE (key x) (key y))]) ∧ w' = w := by
  have l2 := key_le y
  by_cases e : key x = 18437736874454810625 ∨ key y = 18437736874454810625
  · have E1 : Hid (midE (key x) (key y) = 60) := by show midE _ _ = _; unfold midE; rw [if_pos e]
    have E2 : Hid (midB 9218868437227405313 (key x) (key y) = 0) := by show midB _ _ _ = _; unfold midB; rw [if_pos (by omega)]
    rw [E1.out, E2.out]
    clear E1 E2 l2
    by_cases e1 : key x = 18437736874454810625
    · have n1 : decide (isNaN x) = true := by rw [key_nan_iff, decide_eq_true e1]
      clear e e1
      go_enter Try.func23, Try.ntmps23
      go_wp2_with first
        | (go_at_call 54; refine (rNaN_any _ _ (by assumption)).mono ?_; rintro e w' ⟨rfl, rfl⟩)
        | (go_at_call 16; refine (rKey_any _ _ (by assumption)).mono ?_; rintro e w' ⟨rfl, rfl⟩)
      go_ret2
      exact ⟨rfl, rfl⟩
    · have n1 : decide (isNaN x) = false := by rw [key_nan_iff, decide_eq_false e1]
      have n2 : decide (isNaN y) = true := by rw [key_nan_iff, decide_eq_true (p := key y = 18437736874454810625) (by omega)]
      clear e e1
      go_enter Try.func23, Try.ntmps23
      go_wp2_with first
        | (go_at_call 54; refine (rNaN_any _ _ (by assumption)).mono ?_; rintro e w' ⟨rfl, rfl⟩)
        | (go_at_call 16; refine (rKey_any _ _ (by assumption)).mono ?_; rintro e w' ⟨rfl, rfl⟩)
      go_ret2
      exact ⟨rfl, rfl⟩
  · have n1 : decide (isNaN x) = false := by rw [key_nan_iff, decide_eq_false (p := key x = 18437736874454810625) (by omega)]
    have n2 : decide (isNaN y) = false := by rw [key_nan_iff, decide_eq_false (p := key y = 18437736874454810625) (by omega)]
    by_cases e2 : key y < key x
    · have E1 : Hid (midE (key x) (key y) = 2) := by show midE _ _ = _; unfold midE; rw [if_neg e, if_pos e2]
      have E2 : Hid (midB 9218868437227405313 (key x) (key y) = 0) := by show midB _ _ _ = _; unfold midB; rw [if_pos (by omega)]
      rw [E1.out, E2.out]
      clear E1 E2 e l2
      go_enter Try.func23, Try.ntmps23
      go_wp2_with first
        | (go_at_call 54; refine (rNaN_any _ _ (by assumption)).mono ?_; rintro e w' ⟨rfl, rfl⟩)
        | (go_at_call 16; refine (rKey_any _ _ (by assumption)).mono ?_; rintro e w' ⟨rfl, rfl⟩)
      go_ret2
      exact ⟨rfl, rfl⟩
    · have E2 : Hid (midB 9218868437227405313 (key x) (key y) = atB 9218868437227405313 (midK (key x) (key y))) := by show midB _ _ _ = _; unfold midB; rw [if_neg (by omega)]
      have E1 : Hid (midE (key x) (key y) = atE (midK (key x) (key y))) := by show midE _ _ = _; unfold midE atE midK; rw [if_neg e, if_neg e2, if_neg (by omega)]
      have hA := fun w => rAt_any (midK (key x) (key y)) w
      have hw := wrap_mid (key x) (key y) (by omega) (by omega)
      rw [E1.out, E2.out]
      generalize atB 9218868437227405313 (midK (key x) (key y)) = bb at hA ⊢
      generalize atE (midK (key x) (key y)) = ee at hA ⊢
      generalize midK (key x) (key y) = k1 at hA hw
      clear E1 E2 e l2
      go_enter Try.func23, Try.ntmps23
      go_wp2_with first
        | (go_at_call 54; refine (rNaN_any _ _ (by assumption)).mono ?_; rintro e w' ⟨rfl, rfl⟩)
        | (go_at_call 16; refine (rKey_any _ _ (by assumption)).mono ?_; rintro e w' ⟨rfl, rfl⟩)
        | (go_at_call 13; refine (hA _).mono ?_; rintro e w' ⟨rfl, rfl⟩)
      go_ret2
      exact ⟨rfl, rfl⟩
theorem rBetween_any (x y : Nat) (w : World) (hx : x < 18446744073709551616) (hy : y < 18446744073709551616) :
    Calls Try.prog 25 #[.int .u64 (x : Nat), .int .u64 (y : Nat)] w fun e w' => e = .returned (.tuple #[.int .u64 (betN (key x) (key y) : Nat), .int .i64 (betE (key x) (key y))]) ∧ w' = w := by
  have l2 := key_le y
  by_cases e : key x = 18437736874454810625 ∨ key y = 18437736874454810625
  · have E1 : Hid (betE (key x) (key y) = 60) := by show betE _ _ = _; unfold betE; rw [if_pos e]
    have E2 : Hid (betN (key x) (key y) = 0) := by show betN _ _ = _; unfold betN; rw [if_pos (by omega)]
    rw [E1.out, E2.out]
    clear E1 E2 l2
    by_cases e1 : key x = 18437736874454810625
    · have n1 : decide (isNaN x) = true := by rw [key_nan_iff, decide_eq_true e1]
      clear e e1
      go_enter Try.func25, Try.ntmps25
      go_wp2_with first
        | (go_at_call 54; refine (rNaN_any _ _ (by assumption)).mono ?_; rintro e w' ⟨rfl, rfl⟩)
        | (go_at_call 16; refine (rKey_any _ _ (by assumption)).mono ?_; rintro e w' ⟨rfl, rfl⟩)
      go_ret2
      exact ⟨rfl, rfl⟩
    · have n1 : decide (isNaN x) = false := by rw [key_nan_iff, decide_eq_false e1]
      have n2 : decide (isNaN y) = true := by rw [key_nan_iff, decide_eq_true (p := key y = 18437736874454810625) (by omega)]
      clear e e1
      go_enter Try.func25, Try.ntmps25
      go_wp2_with first
        | (go_at_call 54; refine (rNaN_any _ _ (by assumption)).mono ?_; rintro e w' ⟨rfl, rfl⟩)
        | (go_at_call 16; refine (rKey_any _ _ (by assumption)).mono ?_; rintro e w' ⟨rfl, rfl⟩)
      go_ret2
      exact ⟨rfl, rfl⟩
  · have n1 : decide (isNaN x) = false := by rw [key_nan_iff, decide_eq_false (p := key x = 18437736874454810625) (by omega)]
    have n2 : decide (isNaN y) = false := by rw [key_nan_iff, decide_eq_false (p := key y = 18437736874454810625) (by omega)]
    have E1 : Hid (betE (key x) (key y) = 0) := by show betE _ _ = _; unfold betE; rw [if_neg e]
    by_cases e2 : key y < key x
    · have E2 : Hid (betN (key x) (key y) = 0) := by show betN _ _ = _; unfold betN; rw [if_pos (by omega)]
      rw [E1.out, E2.out]
      clear E1 E2 e l2
      go_enter Try.func25, Try.ntmps25
      go_wp2_with first
        | (go_at_call 54; refine (rNaN_any _ _ (by assumption)).mono ?_; rintro e w' ⟨rfl, rfl⟩)
        | (go_at_call 16; refine (rKey_any _ _ (by assumption)).mono ?_; rintro e w' ⟨rfl, rfl⟩)
      go_ret2
      exact ⟨rfl, rfl⟩
    · have E2 : Hid (betN (key x) (key y) = key y - key x + 1) := by show betN _ _ = _; unfold betN; rw [if_neg (by omega)]
      have hw := wrap_bet (key x) (key y) (by omega) (by omega)
      rw [E1.out, E2.out]
      generalize key y - key x + 1 = k1 at hw ⊢
      clear E1 E2 e l2
      go_enter Try.func25, Try.ntmps25
      go_wp2_with first
        | (go_at_call 54; refine (rNaN_any _ _ (by assumption)).mono ?_; rintro e w' ⟨rfl, rfl⟩)
        | (go_at_call 16; refine (rKey_any _ _ (by assumption)).mono ?_; rintro e w' ⟨rfl, rfl⟩)
      go_ret2
      exact ⟨rfl, rfl⟩
theorem nx_alk (k : Nat) : Alk (nxB 9221120237041090561 k) (nxB 9218868437227405313 k) := by
  unfold nxB; split
  · exact zero_alk
  · exact at_alk _
theorem pv_alk (k : Nat) : Alk (pvB 9221120237041090561 k) (pvB 9218868437227405313 k) := by
  unfold pvB; split
  · exact zero_alk
  · exact at_alk _
theorem mid_alk (a b : Nat) : Alk (midB 9221120237041090561 a b) (midB 9218868437227405313 a b) := by
  unfold midB; split
  · exact zero_alk
  · exact at_alk _
set_option maxHeartbeats 1000000 in
theorem law_steps (x y : Nat) (w : World) (hx : x < 18446744073709551616) (hy : y < 18446744073709551616) :
    Calls Try.prog 4 #[.int .u64 (x : Nat), .int .u64 (y : Nat)] w fun e w' => e = .returned (.bool true) ∧ w' = w := by
  have f1 := f64from x
  have f2 := f64from y
  have I1 := fun w => is_any (nx_alk (key x)) w
  have I2 := fun w => is_any (pv_alk (key x)) w
  have I3 := fun w => is_any (mid_alk (key x) (key y)) w
  have C := fun w => Compare_any x y w hx hy
  have X1 := fun w => Next_any x w hx
  have X2 := fun w => rStep_up x w hx
  have Y1 := fun w => Prev_any x w hx
  have Y2 := fun w => rStep_down x w hx
  have M1 := fun w => Middle_any x y w hx hy
  have M2 := fun w => rMiddle_any x y w hx hy
  have B1 := fun w => Between_any x y w hx hy
  have B2 := fun w => rBetween_any x y w hx hy
  generalize nxB 9221120237041090561 (key x) = s1 at *
  generalize nxB 9218868437227405313 (key x) = s2 at *
  generalize nxE (key x) = s3 at *
  generalize pvB 9221120237041090561 (key x) = s4 at *
  generalize pvB 9218868437227405313 (key x) = s5 at *
  generalize pvE (key x) = s6 at *
  generalize midB 9221120237041090561 (key x) (key y) = s7 at *
  generalize midB 9218868437227405313 (key x) (key y) = s8 at *
  generalize midE (key x) (key y) = s9 at *
  generalize betN (key x) (key y) = t1 at *
  generalize betE (key x) (key y) = t2 at *
  have fin : ∀ c : Int, cmpV (key x) (key y) = c → Hid (cmpV (key x) (key y) = c) := fun _ h => h
  rcases Nat.lt_trichotomy (key x) (key y) with h | h | h
  · have hc : cmpV (key x) (key y) = -1 := by unfold cmpV; rw [if_pos h]
    have h' : ¬ key y < key x := by omega
    rw [hc] at C
    clear hc fin
    go_enter Try.func4, Try.ntmps4
    go_wp2_with first
        | (go_at_call 16; refine (rKey_any _ _ (by assumption)).mono ?_; rintro e w' ⟨rfl, rfl⟩)
        | (go_at_call 18; refine (C _).mono ?_; rintro e w' ⟨rfl, rfl⟩)
        | (go_at_call 19; refine (X1 _).mono ?_; rintro e w' ⟨rfl, rfl⟩)
        | (go_at_call 21; refine (Y1 _).mono ?_; rintro e w' ⟨rfl, rfl⟩)
        | (go_at_call 22; refine (M1 _).mono ?_; rintro e w' ⟨rfl, rfl⟩)
        | (go_at_call 23; refine (M2 _).mono ?_; rintro e w' ⟨rfl, rfl⟩)
        | (go_at_call 24; refine (B1 _).mono ?_; rintro e w' ⟨rfl, rfl⟩)
        | (go_at_call 25; refine (B2 _).mono ?_; rintro e w' ⟨rfl, rfl⟩)
        | (go_at_call 20; first | (refine (X2 _).mono ?_; clear X2; rintro e w' ⟨rfl, rfl⟩) | (refine (Y2 _).mono ?_; rintro e w' ⟨rfl, rfl⟩))
        | (go_at_call 17; first | (refine (I1 _).mono ?_; clear I1; rintro e w' ⟨rfl, rfl⟩) | (refine (I2 _).mono ?_; clear I2; rintro e w' ⟨rfl, rfl⟩) | (refine (I3 _).mono ?_; clear I3; rintro e w' ⟨rfl, rfl⟩))
    all_goals (go_ret; exact ⟨rfl, rfl⟩)
  · have hc : cmpV (key x) (key y) = 0 := by unfold cmpV; rw [if_neg (by omega), if_neg (by omega)]
    have h1 : ¬ key x < key y := by omega
    have h2 : ¬ key y < key x := by omega
    rw [hc] at C
    clear hc fin h
    go_enter Try.func4, Try.ntmps4
    go_wp2_with first
        | (go_at_call 16; refine (rKey_any _ _ (by assumption)).mono ?_; rintro e w' ⟨rfl, rfl⟩)
        | (go_at_call 18; refine (C _).mono ?_; rintro e w' ⟨rfl, rfl⟩)
        | (go_at_call 19; refine (X1 _).mono ?_; rintro e w' ⟨rfl, rfl⟩)
        | (go_at_call 21; refine (Y1 _).mono ?_; rintro e w' ⟨rfl, rfl⟩)
        | (go_at_call 22; refine (M1 _).mono ?_; rintro e w' ⟨rfl, rfl⟩)
        | (go_at_call 23; refine (M2 _).mono ?_; rintro e w' ⟨rfl, rfl⟩)
        | (go_at_call 24; refine (B1 _).mono ?_; rintro e w' ⟨rfl, rfl⟩)
        | (go_at_call 25; refine (B2 _).mono ?_; rintro e w' ⟨rfl, rfl⟩)
        | (go_at_call 20; first | (refine (X2 _).mono ?_; clear X2; rintro e w' ⟨rfl, rfl⟩) | (refine (Y2 _).mono ?_; rintro e w' ⟨rfl, rfl⟩))
        | (go_at_call 17; first | (refine (I1 _).mono ?_; clear I1; rintro e w' ⟨rfl, rfl⟩) | (refine (I2 _).mono ?_; clear I2; rintro e w' ⟨rfl, rfl⟩) | (refine (I3 _).mono ?_; clear I3; rintro e w' ⟨rfl, rfl⟩))
    all_goals (go_ret; exact ⟨rfl, rfl⟩)
  · have hc : cmpV (key x) (key y) = 1 := by unfold cmpV; rw [if_neg (by omega), if_pos h]
    have h' : ¬ key x < key y := by omega
    rw [hc] at C
    clear hc fin
    go_enter Try.func4, Try.ntmps4
    go_wp2_with first
        | (go_at_call 16; refine (rKey_any _ _ (by assumption)).mono ?_; rintro e w' ⟨rfl, rfl⟩)
        | (go_at_call 18; refine (C _).mono ?_; rintro e w' ⟨rfl, rfl⟩)
        | (go_at_call 19; refine (X1 _).mono ?_; rintro e w' ⟨rfl, rfl⟩)
        | (go_at_call 21; refine (Y1 _).mono ?_; rintro e w' ⟨rfl, rfl⟩)
        | (go_at_call 22; refine (M1 _).mono ?_; rintro e w' ⟨rfl, rfl⟩)
        | (go_at_call 23; refine (M2 _).mono ?_; rintro e w' ⟨rfl, rfl⟩)
        | (go_at_call 24; refine (B1 _).mono ?_; rintro e w' ⟨rfl, rfl⟩)
        | (go_at_call 25; refine (B2 _).mono ?_; rintro e w' ⟨rfl, rfl⟩)
        | (go_at_call 20; first | (refine (X2 _).mono ?_; clear X2; rintro e w' ⟨rfl, rfl⟩) | (refine (Y2 _).mono ?_; rintro e w' ⟨rfl, rfl⟩))
        | (go_at_call 17; first | (refine (I1 _).mono ?_; clear I1; rintro e w' ⟨rfl, rfl⟩) | (refine (I2 _).mono ?_; clear I2; rintro e w' ⟨rfl, rfl⟩) | (refine (I3 _).mono ?_; clear I3; rintro e w' ⟨rfl, rfl⟩))
    all_goals (go_ret; exact ⟨rfl, rfl⟩)
end Go.Proofs.Ytjiflgdbgpegiaa
