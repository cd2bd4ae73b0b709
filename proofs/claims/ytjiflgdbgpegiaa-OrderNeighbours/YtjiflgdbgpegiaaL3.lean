import Derived.Test.YtjiflgdbgpegiaaL2
set_option linter.unusedVariables false
namespace Go.Proofs.Ytjiflgdbgpegiaa
open Go.RowKit
theorem IsInf_any (w : World) : Calls Try.prog 48 #[.float .f64 9218868437227405312, .int .i64 1] w fun e w' => e = .returned (.bool true) ∧ w' = w := by
  have h : (FloatKind.f64.format.order 9218868437227405312 9218868437227405311 == some .gt) = true := by
    rw [ord_gt (by omega) (by omega) (by decide) (by decide) (by decide)]; rfl
  go_enter Try.func48, Try.ntmps48
  go_wp2
  all_goals (go_ret; exact ⟨rfl, rfl⟩)
theorem nb_nan (x y v u m : Nat) (w : World) (f1 : ∀ w, (callFunc 15 #[.int .u64 (x : Nat)]).run Try.prog w = .ok (.value (.float .f64 x)) w) (f2 : ∀ w, (callFunc 15 #[.int .u64 (y : Nat)]).run Try.prog w = .ok (.value (.float .f64 y)) w)
    (hN : ∀ w, Calls Try.prog 19 #[.float .f64 x] w fun e w' => e = .returned (.tuple #[.float .f64 v, .int .i64 60]) ∧ w' = w)
    (q0 : (FloatKind.f64.format.order x x != some .eq) = true) :
    Calls Try.prog 8 #[.int .u64 (x : Nat), .int .u64 (y : Nat)] w fun e w' => e = .returned (.bool true) ∧ w' = w := by
  go_enter Try.func8, Try.ntmps8
  go_wp2_with first
    | (go_at_call 46; refine (begins_any _).mono ?_; rintro e w' ⟨rfl, rfl⟩)
    | (go_at_call 19; refine (hN _).mono ?_; rintro e w' ⟨rfl, rfl⟩)
    | (go_at_call 21; refine (hP _).mono ?_; rintro e w' ⟨rfl, rfl⟩)
    | (go_at_call 24; refine (hB _).mono ?_; rintro e w' ⟨rfl, rfl⟩)
    | (go_at_call 22; refine (hM _).mono ?_; rintro e w' ⟨rfl, rfl⟩)
    | (go_at_call 48; refine (hI _).mono ?_; rintro e w' ⟨rfl, rfl⟩)
  all_goals (go_ret; exact ⟨rfl, rfl⟩)
theorem nb_inf (x y v u m : Nat) (w : World) (f1 : ∀ w, (callFunc 15 #[.int .u64 (x : Nat)]).run Try.prog w = .ok (.value (.float .f64 x)) w) (f2 : ∀ w, (callFunc 15 #[.int .u64 (y : Nat)]).run Try.prog w = .ok (.value (.float .f64 y)) w)
    (hN : ∀ w, Calls Try.prog 19 #[.float .f64 x] w fun e w' => e = .returned (.tuple #[.float .f64 v, .int .i64 61]) ∧ w' = w) (hI : ∀ w, Calls Try.prog 48 #[.float .f64 x, .int .i64 1] w fun e w' => e = .returned (.bool true) ∧ w' = w)
    (q0 : (FloatKind.f64.format.order x x != some .eq) = false) :
    Calls Try.prog 8 #[.int .u64 (x : Nat), .int .u64 (y : Nat)] w fun e w' => e = .returned (.bool true) ∧ w' = w := by
  go_enter Try.func8, Try.ntmps8
  go_wp2_with first
    | (go_at_call 46; refine (begins_any _).mono ?_; rintro e w' ⟨rfl, rfl⟩)
    | (go_at_call 19; refine (hN _).mono ?_; rintro e w' ⟨rfl, rfl⟩)
    | (go_at_call 21; refine (hP _).mono ?_; rintro e w' ⟨rfl, rfl⟩)
    | (go_at_call 24; refine (hB _).mono ?_; rintro e w' ⟨rfl, rfl⟩)
    | (go_at_call 22; refine (hM _).mono ?_; rintro e w' ⟨rfl, rfl⟩)
    | (go_at_call 48; refine (hI _).mono ?_; rintro e w' ⟨rfl, rfl⟩)
  all_goals (go_ret; exact ⟨rfl, rfl⟩)
theorem nb_yn (x y v u m : Nat) (w : World) (f1 : ∀ w, (callFunc 15 #[.int .u64 (x : Nat)]).run Try.prog w = .ok (.value (.float .f64 x)) w) (f2 : ∀ w, (callFunc 15 #[.int .u64 (y : Nat)]).run Try.prog w = .ok (.value (.float .f64 y)) w)
    (hN : ∀ w, Calls Try.prog 19 #[.float .f64 x] w fun e w' => e = .returned (.tuple #[.float .f64 v, .int .i64 0]) ∧ w' = w) (hP : ∀ w, Calls Try.prog 21 #[.float .f64 v] w fun e w' => e = .returned (.tuple #[.float .f64 u, .int .i64 0]) ∧ w' = w) (hB : ∀ w, Calls Try.prog 24 #[.float .f64 x, .float .f64 v] w fun e w' => e = .returned (.tuple #[.int .u64 2, .int .i64 0]) ∧ w' = w)
    (q0 : (FloatKind.f64.format.order x x != some .eq) = false) (q1 : (FloatKind.f64.format.order u x != some .eq) = false) (q2 : (FloatKind.f64.format.order v x == some .gt) = true) (q3 : (FloatKind.f64.format.order y y == some .eq) = false) (q4 : (FloatKind.f64.format.order y y != some .eq) = true) :
    Calls Try.prog 8 #[.int .u64 (x : Nat), .int .u64 (y : Nat)] w fun e w' => e = .returned (.bool true) ∧ w' = w := by
  go_enter Try.func8, Try.ntmps8
  go_wp2_with first
    | (go_at_call 46; refine (begins_any _).mono ?_; rintro e w' ⟨rfl, rfl⟩)
    | (go_at_call 19; refine (hN _).mono ?_; rintro e w' ⟨rfl, rfl⟩)
    | (go_at_call 21; refine (hP _).mono ?_; rintro e w' ⟨rfl, rfl⟩)
    | (go_at_call 24; refine (hB _).mono ?_; rintro e w' ⟨rfl, rfl⟩)
    | (go_at_call 22; refine (hM _).mono ?_; rintro e w' ⟨rfl, rfl⟩)
    | (go_at_call 48; refine (hI _).mono ?_; rintro e w' ⟨rfl, rfl⟩)
  all_goals (go_ret; exact ⟨rfl, rfl⟩)
theorem nb_At (x y v u m : Nat) (w : World) (f1 : ∀ w, (callFunc 15 #[.int .u64 (x : Nat)]).run Try.prog w = .ok (.value (.float .f64 x)) w) (f2 : ∀ w, (callFunc 15 #[.int .u64 (y : Nat)]).run Try.prog w = .ok (.value (.float .f64 y)) w)
    (hN : ∀ w, Calls Try.prog 19 #[.float .f64 x] w fun e w' => e = .returned (.tuple #[.float .f64 v, .int .i64 0]) ∧ w' = w) (hP : ∀ w, Calls Try.prog 21 #[.float .f64 v] w fun e w' => e = .returned (.tuple #[.float .f64 u, .int .i64 0]) ∧ w' = w) (hB : ∀ w, Calls Try.prog 24 #[.float .f64 x, .float .f64 v] w fun e w' => e = .returned (.tuple #[.int .u64 2, .int .i64 0]) ∧ w' = w) (hM : ∀ w, Calls Try.prog 22 #[.float .f64 y, .float .f64 x] w fun e w' => e = .returned (.tuple #[.float .f64 m, .int .i64 0]) ∧ w' = w)
    (q0 : (FloatKind.f64.format.order x x != some .eq) = false) (q1 : (FloatKind.f64.format.order u x != some .eq) = false) (q2 : (FloatKind.f64.format.order v x == some .gt) = true) (q3 : (FloatKind.f64.format.order y y == some .eq) = true) (q4 : (FloatKind.f64.format.order y y != some .eq) = false) (q5 : (FloatKind.f64.format.order y x == some .gt) = false) (q6 : (FloatKind.f64.format.order y x == some .lt) = true) (q7 : (FloatKind.f64.format.order y m == some .lt) = true) (q8 : (FloatKind.f64.format.order y m == some .eq) = false) (q9 : (FloatKind.f64.format.order m x == some .lt) = true) :
    Calls Try.prog 8 #[.int .u64 (x : Nat), .int .u64 (y : Nat)] w fun e w' => e = .returned (.bool true) ∧ w' = w := by
  go_enter Try.func8, Try.ntmps8
  go_wp2_with first
    | (go_at_call 46; refine (begins_any _).mono ?_; rintro e w' ⟨rfl, rfl⟩)
    | (go_at_call 19; refine (hN _).mono ?_; rintro e w' ⟨rfl, rfl⟩)
    | (go_at_call 21; refine (hP _).mono ?_; rintro e w' ⟨rfl, rfl⟩)
    | (go_at_call 24; refine (hB _).mono ?_; rintro e w' ⟨rfl, rfl⟩)
    | (go_at_call 22; refine (hM _).mono ?_; rintro e w' ⟨rfl, rfl⟩)
    | (go_at_call 48; refine (hI _).mono ?_; rintro e w' ⟨rfl, rfl⟩)
  all_goals (go_ret; exact ⟨rfl, rfl⟩)
theorem nb_Ct (x y v u m : Nat) (w : World) (f1 : ∀ w, (callFunc 15 #[.int .u64 (x : Nat)]).run Try.prog w = .ok (.value (.float .f64 x)) w) (f2 : ∀ w, (callFunc 15 #[.int .u64 (y : Nat)]).run Try.prog w = .ok (.value (.float .f64 y)) w)
    (hN : ∀ w, Calls Try.prog 19 #[.float .f64 x] w fun e w' => e = .returned (.tuple #[.float .f64 v, .int .i64 0]) ∧ w' = w) (hP : ∀ w, Calls Try.prog 21 #[.float .f64 v] w fun e w' => e = .returned (.tuple #[.float .f64 u, .int .i64 0]) ∧ w' = w) (hB : ∀ w, Calls Try.prog 24 #[.float .f64 x, .float .f64 v] w fun e w' => e = .returned (.tuple #[.int .u64 2, .int .i64 0]) ∧ w' = w) (hM : ∀ w, Calls Try.prog 22 #[.float .f64 x, .float .f64 y] w fun e w' => e = .returned (.tuple #[.float .f64 m, .int .i64 0]) ∧ w' = w)
    (q0 : (FloatKind.f64.format.order x x != some .eq) = false) (q1 : (FloatKind.f64.format.order u x != some .eq) = false) (q2 : (FloatKind.f64.format.order v x == some .gt) = true) (q3 : (FloatKind.f64.format.order y y == some .eq) = true) (q4 : (FloatKind.f64.format.order y y != some .eq) = false) (q5 : (FloatKind.f64.format.order y x == some .gt) = true) (q6 : (FloatKind.f64.format.order y v == some .lt) = false) (q7 : (FloatKind.f64.format.order y x == some .lt) = false) (q8 : (FloatKind.f64.format.order x m == some .lt) = true) (q9 : (FloatKind.f64.format.order x m == some .eq) = false) (q10 : (FloatKind.f64.format.order m y == some .lt) = true) (q11 : (FloatKind.f64.format.order x y == some .lt) = true) :
    Calls Try.prog 8 #[.int .u64 (x : Nat), .int .u64 (y : Nat)] w fun e w' => e = .returned (.bool true) ∧ w' = w := by
  go_enter Try.func8, Try.ntmps8
  go_wp2_with first
    | (go_at_call 46; refine (begins_any _).mono ?_; rintro e w' ⟨rfl, rfl⟩)
    | (go_at_call 19; refine (hN _).mono ?_; rintro e w' ⟨rfl, rfl⟩)
    | (go_at_call 21; refine (hP _).mono ?_; rintro e w' ⟨rfl, rfl⟩)
    | (go_at_call 24; refine (hB _).mono ?_; rintro e w' ⟨rfl, rfl⟩)
    | (go_at_call 22; refine (hM _).mono ?_; rintro e w' ⟨rfl, rfl⟩)
    | (go_at_call 48; refine (hI _).mono ?_; rintro e w' ⟨rfl, rfl⟩)
  all_goals (go_ret; exact ⟨rfl, rfl⟩)
theorem nb_Af (x y v u m : Nat) (w : World) (f1 : ∀ w, (callFunc 15 #[.int .u64 (x : Nat)]).run Try.prog w = .ok (.value (.float .f64 x)) w) (f2 : ∀ w, (callFunc 15 #[.int .u64 (y : Nat)]).run Try.prog w = .ok (.value (.float .f64 y)) w)
    (hN : ∀ w, Calls Try.prog 19 #[.float .f64 x] w fun e w' => e = .returned (.tuple #[.float .f64 v, .int .i64 0]) ∧ w' = w) (hP : ∀ w, Calls Try.prog 21 #[.float .f64 v] w fun e w' => e = .returned (.tuple #[.float .f64 u, .int .i64 0]) ∧ w' = w) (hB : ∀ w, Calls Try.prog 24 #[.float .f64 x, .float .f64 v] w fun e w' => e = .returned (.tuple #[.int .u64 2, .int .i64 0]) ∧ w' = w) (hM : ∀ w, Calls Try.prog 22 #[.float .f64 y, .float .f64 x] w fun e w' => e = .returned (.tuple #[.float .f64 m, .int .i64 0]) ∧ w' = w)
    (q0 : (FloatKind.f64.format.order x x != some .eq) = false) (q1 : (FloatKind.f64.format.order u x != some .eq) = false) (q2 : (FloatKind.f64.format.order v x == some .gt) = true) (q3 : (FloatKind.f64.format.order y y == some .eq) = true) (q4 : (FloatKind.f64.format.order y y != some .eq) = false) (q5 : (FloatKind.f64.format.order y x == some .gt) = false) (q6 : (FloatKind.f64.format.order y x == some .lt) = true) (q7 : (FloatKind.f64.format.order y m == some .lt) = false) (q8 : (FloatKind.f64.format.order y m == some .eq) = true) (q9 : (FloatKind.f64.format.order m x == some .lt) = true) :
    Calls Try.prog 8 #[.int .u64 (x : Nat), .int .u64 (y : Nat)] w fun e w' => e = .returned (.bool true) ∧ w' = w := by
  go_enter Try.func8, Try.ntmps8
  go_wp2_with first
    | (go_at_call 46; refine (begins_any _).mono ?_; rintro e w' ⟨rfl, rfl⟩)
    | (go_at_call 19; refine (hN _).mono ?_; rintro e w' ⟨rfl, rfl⟩)
    | (go_at_call 21; refine (hP _).mono ?_; rintro e w' ⟨rfl, rfl⟩)
    | (go_at_call 24; refine (hB _).mono ?_; rintro e w' ⟨rfl, rfl⟩)
    | (go_at_call 22; refine (hM _).mono ?_; rintro e w' ⟨rfl, rfl⟩)
    | (go_at_call 48; refine (hI _).mono ?_; rintro e w' ⟨rfl, rfl⟩)
  all_goals (go_ret; exact ⟨rfl, rfl⟩)
theorem nb_Cf (x y v u m : Nat) (w : World) (f1 : ∀ w, (callFunc 15 #[.int .u64 (x : Nat)]).run Try.prog w = .ok (.value (.float .f64 x)) w) (f2 : ∀ w, (callFunc 15 #[.int .u64 (y : Nat)]).run Try.prog w = .ok (.value (.float .f64 y)) w)
    (hN : ∀ w, Calls Try.prog 19 #[.float .f64 x] w fun e w' => e = .returned (.tuple #[.float .f64 v, .int .i64 0]) ∧ w' = w) (hP : ∀ w, Calls Try.prog 21 #[.float .f64 v] w fun e w' => e = .returned (.tuple #[.float .f64 u, .int .i64 0]) ∧ w' = w) (hB : ∀ w, Calls Try.prog 24 #[.float .f64 x, .float .f64 v] w fun e w' => e = .returned (.tuple #[.int .u64 2, .int .i64 0]) ∧ w' = w) (hM : ∀ w, Calls Try.prog 22 #[.float .f64 x, .float .f64 y] w fun e w' => e = .returned (.tuple #[.float .f64 m, .int .i64 0]) ∧ w' = w)
    (q0 : (FloatKind.f64.format.order x x != some .eq) = false) (q1 : (FloatKind.f64.format.order u x != some .eq) = false) (q2 : (FloatKind.f64.format.order v x == some .gt) = true) (q3 : (FloatKind.f64.format.order y y == some .eq) = true) (q4 : (FloatKind.f64.format.order y y != some .eq) = false) (q5 : (FloatKind.f64.format.order y x == some .gt) = true) (q6 : (FloatKind.f64.format.order y v == some .lt) = false) (q7 : (FloatKind.f64.format.order y x == some .lt) = false) (q8 : (FloatKind.f64.format.order x m == some .lt) = false) (q9 : (FloatKind.f64.format.order x m == some .eq) = true) (q10 : (FloatKind.f64.format.order m y == some .lt) = true) (q11 : (FloatKind.f64.format.order x y == some .lt) = true) :
    Calls Try.prog 8 #[.int .u64 (x : Nat), .int .u64 (y : Nat)] w fun e w' => e = .returned (.bool true) ∧ w' = w := by
  go_enter Try.func8, Try.ntmps8
  go_wp2_with first
    | (go_at_call 46; refine (begins_any _).mono ?_; rintro e w' ⟨rfl, rfl⟩)
    | (go_at_call 19; refine (hN _).mono ?_; rintro e w' ⟨rfl, rfl⟩)
    | (go_at_call 21; refine (hP _).mono ?_; rintro e w' ⟨rfl, rfl⟩)
    | (go_at_call 24; refine (hB _).mono ?_; rintro e w' ⟨rfl, rfl⟩)
    | (go_at_call 22; refine (hM _).mono ?_; rintro e w' ⟨rfl, rfl⟩)
    | (go_at_call 48; refine (hI _).mono ?_; rintro e w' ⟨rfl, rfl⟩)
  all_goals (go_ret; exact ⟨rfl, rfl⟩)
theorem nb_B (x y v u m : Nat) (w : World) (f1 : ∀ w, (callFunc 15 #[.int .u64 (x : Nat)]).run Try.prog w = .ok (.value (.float .f64 x)) w) (f2 : ∀ w, (callFunc 15 #[.int .u64 (y : Nat)]).run Try.prog w = .ok (.value (.float .f64 y)) w)
    (hN : ∀ w, Calls Try.prog 19 #[.float .f64 x] w fun e w' => e = .returned (.tuple #[.float .f64 v, .int .i64 0]) ∧ w' = w) (hP : ∀ w, Calls Try.prog 21 #[.float .f64 v] w fun e w' => e = .returned (.tuple #[.float .f64 u, .int .i64 0]) ∧ w' = w) (hB : ∀ w, Calls Try.prog 24 #[.float .f64 x, .float .f64 v] w fun e w' => e = .returned (.tuple #[.int .u64 2, .int .i64 0]) ∧ w' = w) (hM : ∀ w, Calls Try.prog 22 #[.float .f64 x, .float .f64 y] w fun e w' => e = .returned (.tuple #[.float .f64 m, .int .i64 0]) ∧ w' = w)
    (q0 : (FloatKind.f64.format.order x x != some .eq) = false) (q1 : (FloatKind.f64.format.order u x != some .eq) = false) (q2 : (FloatKind.f64.format.order v x == some .gt) = true) (q3 : (FloatKind.f64.format.order y y == some .eq) = true) (q4 : (FloatKind.f64.format.order y y != some .eq) = false) (q5 : (FloatKind.f64.format.order y x == some .gt) = false) (q6 : (FloatKind.f64.format.order y x == some .lt) = false) (q7 : (FloatKind.f64.format.order x m == some .lt) = false) (q8 : (FloatKind.f64.format.order x m == some .eq) = true) (q9 : (FloatKind.f64.format.order m y == some .lt) = false) (q10 : (FloatKind.f64.format.order m y == some .eq) = true) (q11 : (FloatKind.f64.format.order x y == some .lt) = false) :
    Calls Try.prog 8 #[.int .u64 (x : Nat), .int .u64 (y : Nat)] w fun e w' => e = .returned (.bool true) ∧ w' = w := by
  go_enter Try.func8, Try.ntmps8
  go_wp2_with first
    | (go_at_call 46; refine (begins_any _).mono ?_; rintro e w' ⟨rfl, rfl⟩)
    | (go_at_call 19; refine (hN _).mono ?_; rintro e w' ⟨rfl, rfl⟩)
    | (go_at_call 21; refine (hP _).mono ?_; rintro e w' ⟨rfl, rfl⟩)
    | (go_at_call 24; refine (hB _).mono ?_; rintro e w' ⟨rfl, rfl⟩)
    | (go_at_call 22; refine (hM _).mono ?_; rintro e w' ⟨rfl, rfl⟩)
    | (go_at_call 48; refine (hI _).mono ?_; rintro e w' ⟨rfl, rfl⟩)
  all_goals (go_ret; exact ⟨rfl, rfl⟩)
theorem law_neigh (x y : Nat) (w : World) (hx : x < 18446744073709551616) (hy : y < 18446744073709551616) :
    Calls Try.prog 8 #[.int .u64 (x : Nat), .int .u64 (y : Nat)] w fun e w' => e = .returned (.bool true) ∧ w' = w := by
  have f1 := f64from x
  have f2 := f64from y
  have lx := key_le x
  have ly := key_le y
  have hN := fun w => Next_any x w hx
  by_cases nx : isNaN x
  · rw [show nxE (key x) = 60 by unfold nxE; rw [if_pos (nan_key.1 nx)]] at hN
    exact nb_nan x y _ 0 0 w f1 f2 hN (by rw [ord_nan (.inl nx)]; rfl)
  · have kx := mt nan_key.2 nx
    have q0 : (FloatKind.f64.format.order x x != some .eq) = false := by rw [ord_eq hx hx nx nx rfl]; rfl
    by_cases ex : key x = 18437736874454810624
    · rw [show nxE (key x) = 61 by unfold nxE; rw [if_neg kx, if_pos ex]] at hN
      have x0 : x = 9218868437227405312 := by
        unfold isNaN at nx
        by_cases h2 : x < 9223372036854775808
        · rw [key_pos nx h2] at ex; omega
        · rw [key_neg nx h2] at ex; omega
      have hI := IsInf_any
      rw [← x0] at hI
      exact nb_inf x y _ 0 0 w f1 f2 hN hI q0
    · rw [show nxE (key x) = 0 by unfold nxE; rw [if_neg kx, if_neg ex], show nxB 9221120237041090561 (key x) = atB 9221120237041090561 (key x + 1) by unfold nxB; rw [if_neg (by omega)]] at hN
      have kv : key (atB 9221120237041090561 (key x + 1)) = key x + 1 := atB_key (by omega)
      have vl := atB_lt' (key x + 1)
      generalize atB 9221120237041090561 (key x + 1) = v at hN kv vl
      have nv : ¬ isNaN v := by rw [nan_key, kv]; omega
      have hP := fun w => Prev_any v w vl
      rw [show pvE (key v) = 0 by unfold pvE; rw [if_neg (by omega), if_neg (by omega)], show pvB 9221120237041090561 (key v) = atB 9221120237041090561 (key x) by unfold pvB; rw [if_neg (by omega), kv, Nat.add_sub_cancel]] at hP
      have ku : key (atB 9221120237041090561 (key x)) = key x := atB_key (by omega)
      have ul := atB_lt' (key x)
      generalize atB 9221120237041090561 (key x) = u at hP ku ul
      have nu : ¬ isNaN u := by rw [nan_key, ku]; omega
      have hB := fun w => Between_any x v w hx vl
      rw [show betN (key x) (key v) = 2 by unfold betN; rw [if_neg (by omega)]; omega, show betE (key x) (key v) = 0 by unfold betE; rw [if_neg (by omega)]] at hB
      have q1 : (FloatKind.f64.format.order u x != some .eq) = false := by rw [ord_eq ul hx nu nx ku]; rfl
      have q2 : (FloatKind.f64.format.order v x == some .gt) = true := by rw [ord_gt vl hx nv nx (by omega)]; rfl
      by_cases ny : isNaN y
      · exact nb_yn x y v u 0 w f1 f2 hN hP hB q0 q1 q2 (by rw [ord_nan (.inl ny)]; rfl) (by rw [ord_nan (.inl ny)]; rfl)
      · have ky := mt nan_key.2 ny
        have q3 : (FloatKind.f64.format.order y y == some .eq) = true := by rw [ord_eq hy hy ny ny rfl]; rfl
        have q4 : (FloatKind.f64.format.order y y != some .eq) = false := by rw [ord_eq hy hy ny ny rfl]; rfl
        have mid : ∀ a b : Nat, a < 18446744073709551616 → b < 18446744073709551616 → ¬ isNaN a → ¬ isNaN b → key a ≤ key b → ∃ m, (∀ w, Calls Try.prog 22 #[.float .f64 a, .float .f64 b] w fun e w' => e = .returned (.tuple #[.float .f64 m, .int .i64 0]) ∧ w' = w) ∧ m < 18446744073709551616 ∧ ¬ isNaN m ∧ key a ≤ key m ∧ key m ≤ key b ∧ (key m = key b → key a = key b) := by
          intro a b ha hb na nb hab
          have ka := mt nan_key.2 na
          have kb := mt nan_key.2 nb
          have la := key_le a
          have lb := key_le b
          have hM := fun w => Middle_any a b w ha hb
          rw [show midE (key a) (key b) = 0 by unfold midE; rw [if_neg (by omega), if_neg (by omega)], show midB 9221120237041090561 (key a) (key b) = atB 9221120237041090561 (midK (key a) (key b)) by unfold midB; rw [if_neg (by omega)]] at hM
          have hk : midK (key a) (key b) ≤ key b := by unfold midK; omega
          have e := atB_key (k := midK (key a) (key b)) (by omega)
          refine ⟨_, hM, atB_lt' _, ?_, ?_, ?_, ?_⟩
          · rw [nan_key, e]; omega
          · rw [e]; unfold midK; omega
          · rw [e]; exact hk
          · rw [e]; unfold midK; omega
        rcases Nat.lt_trichotomy (key y) (key x) with l | l | l
        · obtain ⟨m, hM, ml, nm, m1, m2, m3⟩ := mid y x hy hx ny nx (by omega)
          have r1 : (FloatKind.f64.format.order y x == some .gt) = false := by rw [ord_lt hy hx ny nx l]; rfl
          have r2 : (FloatKind.f64.format.order y x == some .lt) = true := by rw [ord_lt hy hx ny nx l]; rfl
          have r5 : (FloatKind.f64.format.order m x == some .lt) = true := by rw [ord_lt ml hx nm nx (by omega)]; rfl
          by_cases e : key y = key m
          · exact nb_Af x y v u m w f1 f2 hN hP hB hM q0 q1 q2 q3 q4 r1 r2 (by rw [ord_eq hy ml ny nm e]; rfl) (by rw [ord_eq hy ml ny nm e]; rfl) r5
          · exact nb_At x y v u m w f1 f2 hN hP hB hM q0 q1 q2 q3 q4 r1 r2 (by rw [ord_lt hy ml ny nm (by omega)]; rfl) (by rw [ord_lt hy ml ny nm (by omega)]; rfl) r5
        · obtain ⟨m, hM, ml, nm, m1, m2, m3⟩ := mid x y hx hy nx ny (by omega)
          exact nb_B x y v u m w f1 f2 hN hP hB hM q0 q1 q2 q3 q4 (by rw [ord_eq hy hx ny nx l]; rfl) (by rw [ord_eq hy hx ny nx l]; rfl) (by rw [ord_eq hx ml nx nm (by omega)]; rfl) (by rw [ord_eq hx ml nx nm (by omega)]; rfl) (by rw [ord_eq ml hy nm ny (by omega)]; rfl) (by rw [ord_eq ml hy nm ny (by omega)]; rfl) (by rw [ord_eq hx hy nx ny l.symm]; rfl)
        · obtain ⟨m, hM, ml, nm, m1, m2, m3⟩ := mid x y hx hy nx ny (by omega)
          have r1 : (FloatKind.f64.format.order y x == some .gt) = true := by rw [ord_gt hy hx ny nx l]; rfl
          have r2 : (FloatKind.f64.format.order y v == some .lt) = false := by
            by_cases e : key y = key v
            · rw [ord_eq hy vl ny nv e]; rfl
            · rw [ord_gt hy vl ny nv (by omega)]; rfl
          have r3 : (FloatKind.f64.format.order y x == some .lt) = false := by rw [ord_gt hy hx ny nx l]; rfl
          have r6 : (FloatKind.f64.format.order m y == some .lt) = true := by rw [ord_lt ml hy nm ny (by omega)]; rfl
          have r7 : (FloatKind.f64.format.order x y == some .lt) = true := by rw [ord_lt hx hy nx ny l]; rfl
          by_cases e : key x = key m
          · exact nb_Cf x y v u m w f1 f2 hN hP hB hM q0 q1 q2 q3 q4 r1 r2 r3 (by rw [ord_eq hx ml nx nm e]; rfl) (by rw [ord_eq hx ml nx nm e]; rfl) r6 r7
          · exact nb_Ct x y v u m w f1 f2 hN hP hB hM q0 q1 q2 q3 q4 r1 r2 r3 (by rw [ord_lt hx ml nx nm (by omega)]; rfl) (by rw [ord_lt hx ml nx nm (by omega)]; rfl) r6 r7
end Go.Proofs.Ytjiflgdbgpegiaa
