import Derived.Test.YtjiflgdbgpegiaaA3
set_option linter.unusedVariables false
set_option linter.unusedSimpArgs false
namespace Go.Proofs.Ytjiflgdbgpegiaa
open Go.RowKit
/-- -1, 0 or 1. -/
def cmpV (a b : Nat) : Int := if a < b then -1 else if b < a then 1 else 0
theorem cmpNaN (x : Nat) (w : World) : Calls Try.prog 69 #[.int .u64 (x : Nat)] w fun e w' => e = .returned (.bool false) ∧ w' = w := by
  go_enter Try.func69, Try.ntmps69
  go_wp2
  go_ret
  exact ⟨rfl, rfl⟩
theorem cmp_any (a b : Nat) (w : World) : Calls Try.prog 55 #[.int .u64 (a : Nat), .int .u64 (b : Nat)] w fun e w' => e = .returned (.int .i64 (cmpV a b)) ∧ w' = w := by
  rcases Nat.lt_trichotomy a b with h | h | h
  · have Hv : Hid (cmpV a b = -1) := by show cmpV a b = -1; unfold cmpV; rw [if_pos h]
    have a1 : decide ((a : Int) < (b : Int)) = true := by rw [decide_eq_true_eq]; omega
    go_enter Try.func55, Try.ntmps55
    go_wp2_with (go_at_call 69; refine (cmpNaN _ _).mono ?_; rintro e w' ⟨rfl, rfl⟩)
    go_ret
    exact ⟨ret_int Hv.out.symm, rfl⟩
  · subst h
    have Hv : Hid (cmpV a a = 0) := by show cmpV a a = 0; unfold cmpV; rw [if_neg (by omega), if_neg (by omega)]
    have a1 : decide ((a : Int) < (a : Int)) = false := by rw [decide_eq_false_iff_not]; omega
    go_enter Try.func55, Try.ntmps55
    go_wp2_with (go_at_call 69; refine (cmpNaN _ _).mono ?_; rintro e w' ⟨rfl, rfl⟩)
    go_ret
    exact ⟨ret_int Hv.out.symm, rfl⟩
  · have Hv : Hid (cmpV a b = 1) := by show cmpV a b = 1; unfold cmpV; rw [if_neg (by omega), if_pos h]
    have a1 : decide ((a : Int) < (b : Int)) = false := by rw [decide_eq_false_iff_not]; omega
    have a2 : decide ((b : Int) < (a : Int)) = true := by rw [decide_eq_true_eq]; omega
    go_enter Try.func55, Try.ntmps55
    go_wp2_with (go_at_call 69; refine (cmpNaN _ _).mono ?_; rintro e w' ⟨rfl, rfl⟩)
    go_ret
    exact ⟨ret_int Hv.out.symm, rfl⟩
theorem Compare_any (x y : Nat) (w : World) (hx : x < 18446744073709551616) (hy : y < 18446744073709551616) :
    Calls Try.prog 18 #[.float .f64 x, .float .f64 y] w fun e w' => e = .returned (.int .i64 (cmpV (key x) (key y))) ∧ w' = w := by
  go_enter Try.func18, Try.ntmps18
  go_wp2_with first
    | (go_at_call 14; refine (Key_any _ _ (by assumption)).mono ?_; rintro e w' ⟨rfl, rfl⟩)
    | (go_at_call 55; refine (cmp_any _ _ _).mono ?_; rintro e w' ⟨rfl, rfl⟩)
  go_ret
  exact ⟨rfl, rfl⟩
/-- The neighbour above: of a key. -/
def nxB (n k : Nat) : Nat := if k = 18437736874454810625 ∨ k = 18437736874454810624 then 0 else atB n (k + 1)
def nxE (k : Nat) : Int := if k = 18437736874454810625 then 60 else if k = 18437736874454810624 then 61 else 0
def pvB (n k : Nat) : Nat := if k = 18437736874454810625 ∨ k = 0 then 0 else atB n (k - 1)
def pvE (k : Nat) : Int := if k = 18437736874454810625 then 60 else if k = 0 then 61 else 0
theorem wrap_up (k : Nat) (h : k < 18437736874454810625) : IntKind.u64.wrap ((k : Int) + 1) = ((k + 1 : Nat) : Int) := by rw [IntKind.wrap_u64]; omega
theorem wrap_down (k : Nat) (h : 0 < k) (h2 : k < 18446744073709551616) : IntKind.u64.wrap ((k : Int) - 1) = ((k - 1 : Nat) : Int) := by rw [IntKind.wrap_u64]; omega
theorem Next_any (x : Nat) (w : World) (hx : x < 18446744073709551616) :
    Calls Try.prog 19 #[.float .f64 x] w fun e w' => e = .returned (.tuple #[.float .f64 (nxB 9221120237041090561 (key x)), .int .i64 (nxE (key x))]) ∧ w' = w := by
  have h1 := Key_any x w hx
  have hl := key_le x
  generalize key x = k at *
  by_cases e1 : k = 18437736874454810625
  · have Hb : Hid (nxB 9221120237041090561 k = 0) := by show nxB _ _ = _; unfold nxB; rw [if_pos (.inl e1)]
    have He : Hid (nxE k = 60) := by show nxE _ = _; unfold nxE; rw [if_pos e1]
    have a1 : ((k : Int) == 18437736874454810625) = true := by rw [beq_iff_eq]; omega
    rw [Hb.out, He.out]
    clear e1 hl Hb He
    go_enter Try.func19, Try.ntmps19
    go_wp2_with (go_at_call 14; refine h1.mono ?_; rintro e w' ⟨rfl, rfl⟩)
    go_ret2
    exact ⟨rfl, rfl⟩
  · by_cases e2 : k = 18437736874454810624
    · have Hb : Hid (nxB 9221120237041090561 k = 0) := by show nxB _ _ = _; unfold nxB; rw [if_pos (.inr e2)]
      have He : Hid (nxE k = 61) := by show nxE _ = _; unfold nxE; rw [if_neg e1, if_pos e2]
      have a1 : ((k : Int) == 18437736874454810625) = false := by rw [beq_eq_false_iff_ne]; omega
      have a2 : ((k : Int) == 18437736874454810624) = true := by rw [beq_iff_eq]; omega
      rw [Hb.out, He.out]
      clear e1 e2 hl Hb He
      go_enter Try.func19, Try.ntmps19
      go_wp2_with (go_at_call 14; refine h1.mono ?_; rintro e w' ⟨rfl, rfl⟩)
      go_ret2
      exact ⟨rfl, rfl⟩
    · have Hb : Hid (nxB 9221120237041090561 k = atB 9221120237041090561 (k + 1)) := by show nxB _ _ = _; unfold nxB; rw [if_neg (by omega)]
      have He : Hid (nxE k = atE (k + 1)) := by show nxE _ = _; unfold nxE atE; rw [if_neg e1, if_neg e2, if_neg (by omega)]
      have a1 : ((k : Int) == 18437736874454810625) = false := by rw [beq_eq_false_iff_ne]; omega
      have a2 : ((k : Int) == 18437736874454810624) = false := by rw [beq_eq_false_iff_ne]; omega
      have hA := At_any (k + 1) w
      have hw := wrap_up k (by omega)
      rw [Hb.out, He.out]
      generalize atB 9221120237041090561 (k + 1) = b at hA ⊢
      generalize atE (k + 1) = ee at hA ⊢
      generalize k + 1 = k1 at hA hw
      clear e1 e2 hl Hb He
      go_enter Try.func19, Try.ntmps19
      go_wp2_with first
        | (go_at_call 14; refine h1.mono ?_; rintro e w' ⟨rfl, rfl⟩)
        | (go_at_call 12; refine hA.mono ?_; rintro e w' ⟨rfl, rfl⟩)
      go_ret2
      exact ⟨rfl, rfl⟩
theorem Prev_any (x : Nat) (w : World) (hx : x < 18446744073709551616) :
    Calls Try.prog 21 #[.float .f64 x] w fun e w' => e = .returned (.tuple #[.float .f64 (pvB 9221120237041090561 (key x)), .int .i64 (pvE (key x))]) ∧ w' = w := by
  have h1 := Key_any x w hx
  have hl := key_le x
  generalize key x = k at *
  by_cases e1 : k = 18437736874454810625
  · have Hb : Hid (pvB 9221120237041090561 k = 0) := by show pvB _ _ = _; unfold pvB; rw [if_pos (.inl e1)]
    have He : Hid (pvE k = 60) := by show pvE _ = _; unfold pvE; rw [if_pos e1]
    have a1 : ((k : Int) == 18437736874454810625) = true := by rw [beq_iff_eq]; omega
    rw [Hb.out, He.out]
    clear e1 hl Hb He
    go_enter Try.func21, Try.ntmps21
    go_wp2_with (go_at_call 14; refine h1.mono ?_; rintro e w' ⟨rfl, rfl⟩)
    go_ret2
    exact ⟨rfl, rfl⟩
  · by_cases e2 : k = 0
    · have Hb : Hid (pvB 9221120237041090561 k = 0) := by show pvB _ _ = _; unfold pvB; rw [if_pos (.inr e2)]
      have He : Hid (pvE k = 61) := by show pvE _ = _; unfold pvE; rw [if_neg e1, if_pos e2]
      have a1 : ((k : Int) == 18437736874454810625) = false := by rw [beq_eq_false_iff_ne]; omega
      have a2 : ((k : Int) == 0) = true := by rw [beq_iff_eq]; omega
      rw [Hb.out, He.out]
      clear e1 e2 hl Hb He
      go_enter Try.func21, Try.ntmps21
      go_wp2_with (go_at_call 14; refine h1.mono ?_; rintro e w' ⟨rfl, rfl⟩)
      go_ret2
      exact ⟨rfl, rfl⟩
    · have Hb : Hid (pvB 9221120237041090561 k = atB 9221120237041090561 (k - 1)) := by show pvB _ _ = _; unfold pvB; rw [if_neg (by omega)]
      have He : Hid (pvE k = atE (k - 1)) := by show pvE _ = _; unfold pvE atE; rw [if_neg e1, if_neg e2, if_neg (by omega)]
      have a1 : ((k : Int) == 18437736874454810625) = false := by rw [beq_eq_false_iff_ne]; omega
      have a2 : ((k : Int) == 0) = false := by rw [beq_eq_false_iff_ne]; omega
      have hA := At_any (k - 1) w
      have hw := wrap_down k (by omega) (by omega)
      rw [Hb.out, He.out]
      generalize atB 9221120237041090561 (k - 1) = b at hA ⊢
      generalize atE (k - 1) = ee at hA ⊢
      generalize k - 1 = k1 at hA hw
      clear e1 e2 hl Hb He
      go_enter Try.func21, Try.ntmps21
      go_wp2_with first
        | (go_at_call 14; refine h1.mono ?_; rintro e w' ⟨rfl, rfl⟩)
        | (go_at_call 12; refine hA.mono ?_; rintro e w' ⟨rfl, rfl⟩)
      go_ret2
      exact ⟨rfl, rfl⟩
theorem key_nan_iff (x : Nat) : decide (isNaN x) = decide (key x = 18437736874454810625) := by
  rw [decide_eq_decide]
  unfold isNaN key
  split
  · simp only [*]
  · split <;> omega
theorem rStep_up (x : Nat) (w : World) (hx : x < 18446744073709551616) :
    Calls Try.prog 20 #[.int .u64 (x : Nat), .int .i64 (1)] w fun e w' => e = .returned (.tuple #[.int .u64 (nxB 9218868437227405313 (key x) : Nat), .int .i64 (nxE (key x))]) ∧ w' = w := by
  have h1 := rKey_any x w hx
  have h2 := rNaN_any x w hx
  have hl := key_le x
  have hn := key_nan_iff x
  generalize decide (isNaN x) = nb at h2 hn
  generalize key x = k at *
  by_cases e1 : k = 18437736874454810625
  · have Hb : Hid (nxB 9218868437227405313 k = 0) := by show nxB _ _ = _; unfold nxB; rw [if_pos (.inl e1)]
    have He : Hid (nxE k = 60) := by show nxE _ = _; unfold nxE; rw [if_pos e1]
    obtain rfl : nb = true := by rw [hn, e1]; rfl
    rw [Hb.out, He.out]
    clear e1 hl Hb He hn
    go_enter Try.func20, Try.ntmps20
    go_wp2_with first
      | (go_at_call 16; refine h1.mono ?_; rintro e w' ⟨rfl, rfl⟩)
      | (go_at_call 54; refine h2.mono ?_; rintro e w' ⟨rfl, rfl⟩)
    go_ret2
    exact ⟨rfl, rfl⟩
  · obtain rfl : nb = false := by rw [hn, decide_eq_false e1]
    by_cases e2 : k = 18437736874454810624
    · have Hb : Hid (nxB 9218868437227405313 k = 0) := by show nxB _ _ = _; unfold nxB; rw [if_pos (.inr e2)]
      have He : Hid (nxE k = 61) := by show nxE _ = _; unfold nxE; rw [if_neg e1, if_pos e2]
      have a2 : ((k : Int) == 18437736874454810624) = true := by rw [beq_iff_eq]; omega
      rw [Hb.out, He.out]
      clear e1 e2 hl Hb He hn
      go_enter Try.func20, Try.ntmps20
      go_wp2_with first
        | (go_at_call 16; refine h1.mono ?_; rintro e w' ⟨rfl, rfl⟩)
        | (go_at_call 54; refine h2.mono ?_; rintro e w' ⟨rfl, rfl⟩)
      go_ret2
      exact ⟨rfl, rfl⟩
    · have Hb : Hid (nxB 9218868437227405313 k = atB 9218868437227405313 (k + 1)) := by show nxB _ _ = _; unfold nxB; rw [if_neg (by omega)]
      have He : Hid (nxE k = atE (k + 1)) := by show nxE _ = _; unfold nxE atE; rw [if_neg e1, if_neg e2, if_neg (by omega)]
      have a2 : ((k : Int) == 18437736874454810624) = false := by rw [beq_eq_false_iff_ne]; omega
      have hA := rAt_any (k + 1) w
      have hw : IntKind.u64.wrap ((k : Int) + 1) = ((k + 1 : Nat) : Int) := by rw [IntKind.wrap_u64]; omega
      rw [Hb.out, He.out]
      generalize atB 9218868437227405313 (k + 1) = b at hA ⊢
      generalize atE (k + 1) = ee at hA ⊢
      generalize k + 1 = k1 at hA hw
      clear e1 e2 hl Hb He hn
      go_enter Try.func20, Try.ntmps20
      go_wp2_with first
        | (go_at_call 16; refine h1.mono ?_; rintro e w' ⟨rfl, rfl⟩)
        | (go_at_call 54; refine h2.mono ?_; rintro e w' ⟨rfl, rfl⟩)
        | (go_at_call 13; refine hA.mono ?_; rintro e w' ⟨rfl, rfl⟩)
      go_ret2
      exact ⟨rfl, rfl⟩
theorem rStep_down (x : Nat) (w : World) (hx : x < 18446744073709551616) :
    Calls Try.prog 20 #[.int .u64 (x : Nat), .int .i64 (-1)] w fun e w' => e = .returned (.tuple #[.int .u64 (pvB 9218868437227405313 (key x) : Nat), .int .i64 (pvE (key x))]) ∧ w' = w := by
  have h1 := rKey_any x w hx
  have h2 := rNaN_any x w hx
  have hl := key_le x
  have hn := key_nan_iff x
  generalize decide (isNaN x) = nb at h2 hn
  generalize key x = k at *
  by_cases e1 : k = 18437736874454810625
  · have Hb : Hid (pvB 9218868437227405313 k = 0) := by show pvB _ _ = _; unfold pvB; rw [if_pos (.inl e1)]
    have He : Hid (pvE k = 60) := by show pvE _ = _; unfold pvE; rw [if_pos e1]
    obtain rfl : nb = true := by rw [hn, e1]; rfl
    rw [Hb.out, He.out]
    clear e1 hl Hb He hn
    go_enter Try.func20, Try.ntmps20
    go_wp2_with first
      | (go_at_call 16; refine h1.mono ?_; rintro e w' ⟨rfl, rfl⟩)
      | (go_at_call 54; refine h2.mono ?_; rintro e w' ⟨rfl, rfl⟩)
    go_ret2
    exact ⟨rfl, rfl⟩
  · obtain rfl : nb = false := by rw [hn, decide_eq_false e1]
    by_cases e2 : k = 0
    · have Hb : Hid (pvB 9218868437227405313 k = 0) := by show pvB _ _ = _; unfold pvB; rw [if_pos (.inr e2)]
      have He : Hid (pvE k = 61) := by show pvE _ = _; unfold pvE; rw [if_neg e1, if_pos e2]
      have a2 : ((k : Int) == 0) = true := by rw [beq_iff_eq]; omega
      rw [Hb.out, He.out]
      clear e1 e2 hl Hb He hn
      go_enter Try.func20, Try.ntmps20
      go_wp2_with first
        | (go_at_call 16; refine h1.mono ?_; rintro e w' ⟨rfl, rfl⟩)
        | (go_at_call 54; refine h2.mono ?_; rintro e w' ⟨rfl, rfl⟩)
      go_ret2
      exact ⟨rfl, rfl⟩
    · have Hb : Hid (pvB 9218868437227405313 k = atB 9218868437227405313 (k - 1)) := by show pvB _ _ = _; unfold pvB; rw [if_neg (by omega)]
      have He : Hid (pvE k = atE (k - 1)) := by show pvE _ = _; unfold pvE atE; rw [if_neg e1, if_neg e2, if_neg (by omega)]
      have a2 : ((k : Int) == 0) = false := by rw [beq_eq_false_iff_ne]; omega
      have hA := rAt_any (k - 1) w
      have hw : IntKind.u64.wrap ((k : Int) + IntKind.u64.wrap (-1)) = ((k - 1 : Nat) : Int) := by rw [IntKind.wrap_u64, IntKind.wrap_u64]; omega
      rw [Hb.out, He.out]
      generalize atB 9218868437227405313 (k - 1) = b at hA ⊢
      generalize atE (k - 1) = ee at hA ⊢
      generalize k - 1 = k1 at hA hw
      clear e1 e2 hl Hb He hn
      go_enter Try.func20, Try.ntmps20
      go_wp2_with first
        | (go_at_call 16; refine h1.mono ?_; rintro e w' ⟨rfl, rfl⟩)
        | (go_at_call 54; refine h2.mono ?_; rintro e w' ⟨rfl, rfl⟩)
        | (go_at_call 13; refine hA.mono ?_; rintro e w' ⟨rfl, rfl⟩)
      go_ret2
      exact ⟨rfl, rfl⟩
end Go.Proofs.Ytjiflgdbgpegiaa
