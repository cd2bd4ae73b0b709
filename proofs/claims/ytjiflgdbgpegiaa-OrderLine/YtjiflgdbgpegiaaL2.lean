import Derived.Test.YtjiflgdbgpegiaaL1
set_option linter.unusedVariables false
namespace Go.Proofs.Ytjiflgdbgpegiaa
open Go.RowKit
theorem cmpV_lt {a b : Nat} (h : a < b) : cmpV a b = -1 := by unfold cmpV; rw [if_pos h]
theorem cmpV_gt {a b : Nat} (h : b < a) : cmpV a b = 1 := by unfold cmpV; rw [if_neg (by omega), if_pos h]
theorem cmpV_eq {a b : Nat} (h : a = b) : cmpV a b = 0 := by unfold cmpV; rw [if_neg (by omega), if_neg (by omega)]
/-- What the law asks of the number that comes back. -/
def Back (x v : Nat) : Prop := v < 18446744073709551616 ∧ (isNaN x → isNaN v) ∧ (¬ isNaN x → ¬ isNaN v ∧ key v = key x) ∧ (¬ isNaN v → key v = 9218868437227405312 → v = 0)
theorem back (x : Nat) : Back x (atB 9221120237041090561 (key x)) := by
  have h := atB_key (key_le x)
  refine ⟨atB_lt' _, ?_, ?_, ?_⟩
  · intro hx; rw [nan_key, h]; exact nan_key.1 hx
  · intro hx; refine ⟨?_, h⟩; rw [nan_key, h]; exact fun e => hx (nan_key.2 e)
  · intro _ e; rw [h] at e; rw [e]; decide
set_option maxRecDepth 4000 in
theorem line_nneqok (x y k v u kx : Nat) (w : World) (f1 : ∀ w, (callFunc 15 #[.int .u64 (x : Nat)]).run Try.prog w = .ok (.value (.float .f64 x)) w) (f2 : ∀ w, (callFunc 15 #[.int .u64 (y : Nat)]).run Try.prog w = .ok (.value (.float .f64 y)) w)
    (hK1 : ∀ w, Calls Try.prog 14 #[.float .f64 x] w fun e w' => e = .returned (.int .u64 (kx : Nat)) ∧ w' = w) (hA1 : ∀ w, Calls Try.prog 12 #[.int .u64 (kx : Nat)] w fun e w' => e = .returned (.tuple #[.float .f64 v, .int .i64 0]) ∧ w' = w)
    (hA2 : ∀ w, Calls Try.prog 12 #[.int .u64 (k : Nat)] w fun e w' => e = .returned (.tuple #[.float .f64 u, .int .i64 0]) ∧ w' = w) (hK2 : ∀ w, Calls Try.prog 14 #[.float .f64 u] w fun e w' => e = .returned (.int .u64 (k : Nat)) ∧ w' = w)
    (hC1 : ∀ w, Calls Try.prog 18 #[.float .f64 x, .float .f64 y] w fun e w' => e = .returned (.int .i64 (0)) ∧ w' = w) (hC2 : ∀ w, Calls Try.prog 18 #[.float .f64 y, .float .f64 x] w fun e w' => e = .returned (.int .i64 (0)) ∧ w' = w)
    (x0 : (FloatKind.f64.format.order x x == some .eq) = false) (x1 : (FloatKind.f64.format.order x x != some .eq) = true) (x2 : (FloatKind.f64.format.order v v == some .eq) = false) (x3 : (FloatKind.f64.format.order v 0 == some .eq) = false) (y0 : (FloatKind.f64.format.order y y == some .eq) = false) (y1 : (FloatKind.f64.format.order y y != some .eq) = true) :
    Calls Try.prog 7 #[.int .u64 (x : Nat), .int .u64 (y : Nat), .int .u64 (k : Nat)] w fun e w' => e = .returned (.bool true) ∧ w' = w := by
  go_enter Try.func7, Try.ntmps7
  go_wp2_with first
    | (go_at_call 46; refine (begins_any _).mono ?_; rintro e w' ⟨rfl, rfl⟩)
    | (go_at_call 14; first | (refine (hK1 _).mono ?_; clear hK1; rintro e w' ⟨rfl, rfl⟩) | (refine (hK2 _).mono ?_; clear hK2; rintro e w' ⟨rfl, rfl⟩))
    | (go_at_call 12; first | (refine (hA1 _).mono ?_; clear hA1; rintro e w' ⟨rfl, rfl⟩) | (refine (hA2 _).mono ?_; clear hA2; rintro e w' ⟨rfl, rfl⟩))
    | (go_at_call 47; refine (hS _).mono ?_; rintro e w' ⟨rfl, rfl⟩)
    | (go_at_call 18; first | (refine (hC1 _).mono ?_; clear hC1; rintro e w' ⟨rfl, rfl⟩) | (refine (hC2 _).mono ?_; clear hC2; rintro e w' ⟨rfl, rfl⟩))
  all_goals (go_ret; exact ⟨rfl, rfl⟩)
set_option maxRecDepth 4000 in
theorem line_nmgtok (x y k v u kx : Nat) (w : World) (f1 : ∀ w, (callFunc 15 #[.int .u64 (x : Nat)]).run Try.prog w = .ok (.value (.float .f64 x)) w) (f2 : ∀ w, (callFunc 15 #[.int .u64 (y : Nat)]).run Try.prog w = .ok (.value (.float .f64 y)) w)
    (hK1 : ∀ w, Calls Try.prog 14 #[.float .f64 x] w fun e w' => e = .returned (.int .u64 (kx : Nat)) ∧ w' = w) (hA1 : ∀ w, Calls Try.prog 12 #[.int .u64 (kx : Nat)] w fun e w' => e = .returned (.tuple #[.float .f64 v, .int .i64 0]) ∧ w' = w)
    (hA2 : ∀ w, Calls Try.prog 12 #[.int .u64 (k : Nat)] w fun e w' => e = .returned (.tuple #[.float .f64 u, .int .i64 0]) ∧ w' = w) (hK2 : ∀ w, Calls Try.prog 14 #[.float .f64 u] w fun e w' => e = .returned (.int .u64 (k : Nat)) ∧ w' = w)
    (hC1 : ∀ w, Calls Try.prog 18 #[.float .f64 x, .float .f64 y] w fun e w' => e = .returned (.int .i64 (1)) ∧ w' = w) (hC2 : ∀ w, Calls Try.prog 18 #[.float .f64 y, .float .f64 x] w fun e w' => e = .returned (.int .i64 (-1)) ∧ w' = w)
    (x0 : (FloatKind.f64.format.order x x == some .eq) = false) (x1 : (FloatKind.f64.format.order x x != some .eq) = true) (x2 : (FloatKind.f64.format.order v v == some .eq) = false) (x3 : (FloatKind.f64.format.order v 0 == some .eq) = false) (y0 : (FloatKind.f64.format.order y y == some .eq) = true) (y1 : (FloatKind.f64.format.order y y != some .eq) = false) :
    Calls Try.prog 7 #[.int .u64 (x : Nat), .int .u64 (y : Nat), .int .u64 (k : Nat)] w fun e w' => e = .returned (.bool true) ∧ w' = w := by
  go_enter Try.func7, Try.ntmps7
  go_wp2_with first
    | (go_at_call 46; refine (begins_any _).mono ?_; rintro e w' ⟨rfl, rfl⟩)
    | (go_at_call 14; first | (refine (hK1 _).mono ?_; clear hK1; rintro e w' ⟨rfl, rfl⟩) | (refine (hK2 _).mono ?_; clear hK2; rintro e w' ⟨rfl, rfl⟩))
    | (go_at_call 12; first | (refine (hA1 _).mono ?_; clear hA1; rintro e w' ⟨rfl, rfl⟩) | (refine (hA2 _).mono ?_; clear hA2; rintro e w' ⟨rfl, rfl⟩))
    | (go_at_call 47; refine (hS _).mono ?_; rintro e w' ⟨rfl, rfl⟩)
    | (go_at_call 18; first | (refine (hC1 _).mono ?_; clear hC1; rintro e w' ⟨rfl, rfl⟩) | (refine (hC2 _).mono ?_; clear hC2; rintro e w' ⟨rfl, rfl⟩))
  all_goals (go_ret; exact ⟨rfl, rfl⟩)
set_option maxRecDepth 4000 in
theorem line_znltok (x y k v u kx : Nat) (w : World) (f1 : ∀ w, (callFunc 15 #[.int .u64 (x : Nat)]).run Try.prog w = .ok (.value (.float .f64 x)) w) (f2 : ∀ w, (callFunc 15 #[.int .u64 (y : Nat)]).run Try.prog w = .ok (.value (.float .f64 y)) w)
    (hK1 : ∀ w, Calls Try.prog 14 #[.float .f64 x] w fun e w' => e = .returned (.int .u64 (kx : Nat)) ∧ w' = w) (hA1 : ∀ w, Calls Try.prog 12 #[.int .u64 (kx : Nat)] w fun e w' => e = .returned (.tuple #[.float .f64 v, .int .i64 0]) ∧ w' = w)
    (hS : ∀ w, Calls Try.prog 47 #[.float .f64 v] w fun e w' => e = .returned (.bool false) ∧ w' = w) (hA2 : ∀ w, Calls Try.prog 12 #[.int .u64 (k : Nat)] w fun e w' => e = .returned (.tuple #[.float .f64 u, .int .i64 0]) ∧ w' = w) (hK2 : ∀ w, Calls Try.prog 14 #[.float .f64 u] w fun e w' => e = .returned (.int .u64 (k : Nat)) ∧ w' = w)
    (hC1 : ∀ w, Calls Try.prog 18 #[.float .f64 x, .float .f64 y] w fun e w' => e = .returned (.int .i64 (-1)) ∧ w' = w) (hC2 : ∀ w, Calls Try.prog 18 #[.float .f64 y, .float .f64 x] w fun e w' => e = .returned (.int .i64 (1)) ∧ w' = w)
    (x0 : (FloatKind.f64.format.order x x == some .eq) = true) (x1 : (FloatKind.f64.format.order x x != some .eq) = false) (x2 : (FloatKind.f64.format.order v x != some .eq) = false) (x3 : (FloatKind.f64.format.order v 0 == some .eq) = true) (y0 : (FloatKind.f64.format.order y y == some .eq) = false) (y1 : (FloatKind.f64.format.order y y != some .eq) = true) :
    Calls Try.prog 7 #[.int .u64 (x : Nat), .int .u64 (y : Nat), .int .u64 (k : Nat)] w fun e w' => e = .returned (.bool true) ∧ w' = w := by
  go_enter Try.func7, Try.ntmps7
  go_wp2_with first
    | (go_at_call 46; refine (begins_any _).mono ?_; rintro e w' ⟨rfl, rfl⟩)
    | (go_at_call 14; first | (refine (hK1 _).mono ?_; clear hK1; rintro e w' ⟨rfl, rfl⟩) | (refine (hK2 _).mono ?_; clear hK2; rintro e w' ⟨rfl, rfl⟩))
    | (go_at_call 12; first | (refine (hA1 _).mono ?_; clear hA1; rintro e w' ⟨rfl, rfl⟩) | (refine (hA2 _).mono ?_; clear hA2; rintro e w' ⟨rfl, rfl⟩))
    | (go_at_call 47; refine (hS _).mono ?_; rintro e w' ⟨rfl, rfl⟩)
    | (go_at_call 18; first | (refine (hC1 _).mono ?_; clear hC1; rintro e w' ⟨rfl, rfl⟩) | (refine (hC2 _).mono ?_; clear hC2; rintro e w' ⟨rfl, rfl⟩))
  all_goals (go_ret; exact ⟨rfl, rfl⟩)
set_option maxRecDepth 4000 in
theorem line_onltok (x y k v u kx : Nat) (w : World) (f1 : ∀ w, (callFunc 15 #[.int .u64 (x : Nat)]).run Try.prog w = .ok (.value (.float .f64 x)) w) (f2 : ∀ w, (callFunc 15 #[.int .u64 (y : Nat)]).run Try.prog w = .ok (.value (.float .f64 y)) w)
    (hK1 : ∀ w, Calls Try.prog 14 #[.float .f64 x] w fun e w' => e = .returned (.int .u64 (kx : Nat)) ∧ w' = w) (hA1 : ∀ w, Calls Try.prog 12 #[.int .u64 (kx : Nat)] w fun e w' => e = .returned (.tuple #[.float .f64 v, .int .i64 0]) ∧ w' = w)
    (hA2 : ∀ w, Calls Try.prog 12 #[.int .u64 (k : Nat)] w fun e w' => e = .returned (.tuple #[.float .f64 u, .int .i64 0]) ∧ w' = w) (hK2 : ∀ w, Calls Try.prog 14 #[.float .f64 u] w fun e w' => e = .returned (.int .u64 (k : Nat)) ∧ w' = w)
    (hC1 : ∀ w, Calls Try.prog 18 #[.float .f64 x, .float .f64 y] w fun e w' => e = .returned (.int .i64 (-1)) ∧ w' = w) (hC2 : ∀ w, Calls Try.prog 18 #[.float .f64 y, .float .f64 x] w fun e w' => e = .returned (.int .i64 (1)) ∧ w' = w)
    (x0 : (FloatKind.f64.format.order x x == some .eq) = true) (x1 : (FloatKind.f64.format.order x x != some .eq) = false) (x2 : (FloatKind.f64.format.order v x != some .eq) = false) (x3 : (FloatKind.f64.format.order v 0 == some .eq) = false) (y0 : (FloatKind.f64.format.order y y == some .eq) = false) (y1 : (FloatKind.f64.format.order y y != some .eq) = true) :
    Calls Try.prog 7 #[.int .u64 (x : Nat), .int .u64 (y : Nat), .int .u64 (k : Nat)] w fun e w' => e = .returned (.bool true) ∧ w' = w := by
  go_enter Try.func7, Try.ntmps7
  go_wp2_with first
    | (go_at_call 46; refine (begins_any _).mono ?_; rintro e w' ⟨rfl, rfl⟩)
    | (go_at_call 14; first | (refine (hK1 _).mono ?_; clear hK1; rintro e w' ⟨rfl, rfl⟩) | (refine (hK2 _).mono ?_; clear hK2; rintro e w' ⟨rfl, rfl⟩))
    | (go_at_call 12; first | (refine (hA1 _).mono ?_; clear hA1; rintro e w' ⟨rfl, rfl⟩) | (refine (hA2 _).mono ?_; clear hA2; rintro e w' ⟨rfl, rfl⟩))
    | (go_at_call 47; refine (hS _).mono ?_; rintro e w' ⟨rfl, rfl⟩)
    | (go_at_call 18; first | (refine (hC1 _).mono ?_; clear hC1; rintro e w' ⟨rfl, rfl⟩) | (refine (hC2 _).mono ?_; clear hC2; rintro e w' ⟨rfl, rfl⟩))
  all_goals (go_ret; exact ⟨rfl, rfl⟩)
set_option maxRecDepth 4000 in
theorem line_zmltok (x y k v u kx : Nat) (w : World) (f1 : ∀ w, (callFunc 15 #[.int .u64 (x : Nat)]).run Try.prog w = .ok (.value (.float .f64 x)) w) (f2 : ∀ w, (callFunc 15 #[.int .u64 (y : Nat)]).run Try.prog w = .ok (.value (.float .f64 y)) w)
    (hK1 : ∀ w, Calls Try.prog 14 #[.float .f64 x] w fun e w' => e = .returned (.int .u64 (kx : Nat)) ∧ w' = w) (hA1 : ∀ w, Calls Try.prog 12 #[.int .u64 (kx : Nat)] w fun e w' => e = .returned (.tuple #[.float .f64 v, .int .i64 0]) ∧ w' = w)
    (hS : ∀ w, Calls Try.prog 47 #[.float .f64 v] w fun e w' => e = .returned (.bool false) ∧ w' = w) (hA2 : ∀ w, Calls Try.prog 12 #[.int .u64 (k : Nat)] w fun e w' => e = .returned (.tuple #[.float .f64 u, .int .i64 0]) ∧ w' = w) (hK2 : ∀ w, Calls Try.prog 14 #[.float .f64 u] w fun e w' => e = .returned (.int .u64 (k : Nat)) ∧ w' = w)
    (hC1 : ∀ w, Calls Try.prog 18 #[.float .f64 x, .float .f64 y] w fun e w' => e = .returned (.int .i64 (-1)) ∧ w' = w) (hC2 : ∀ w, Calls Try.prog 18 #[.float .f64 y, .float .f64 x] w fun e w' => e = .returned (.int .i64 (1)) ∧ w' = w)
    (x0 : (FloatKind.f64.format.order x x == some .eq) = true) (x1 : (FloatKind.f64.format.order x x != some .eq) = false) (x2 : (FloatKind.f64.format.order v x != some .eq) = false) (x3 : (FloatKind.f64.format.order v 0 == some .eq) = true) (y0 : (FloatKind.f64.format.order y y == some .eq) = true) (y1 : (FloatKind.f64.format.order y y != some .eq) = false) (c0 : (FloatKind.f64.format.order x y == some .lt) = true) (c1 : (FloatKind.f64.format.order x y == some .eq) = false) (c2 : (FloatKind.f64.format.order x y == some .gt) = false) :
    Calls Try.prog 7 #[.int .u64 (x : Nat), .int .u64 (y : Nat), .int .u64 (k : Nat)] w fun e w' => e = .returned (.bool true) ∧ w' = w := by
  go_enter Try.func7, Try.ntmps7
  go_wp2_with first
    | (go_at_call 46; refine (begins_any _).mono ?_; rintro e w' ⟨rfl, rfl⟩)
    | (go_at_call 14; first | (refine (hK1 _).mono ?_; clear hK1; rintro e w' ⟨rfl, rfl⟩) | (refine (hK2 _).mono ?_; clear hK2; rintro e w' ⟨rfl, rfl⟩))
    | (go_at_call 12; first | (refine (hA1 _).mono ?_; clear hA1; rintro e w' ⟨rfl, rfl⟩) | (refine (hA2 _).mono ?_; clear hA2; rintro e w' ⟨rfl, rfl⟩))
    | (go_at_call 47; refine (hS _).mono ?_; rintro e w' ⟨rfl, rfl⟩)
    | (go_at_call 18; first | (refine (hC1 _).mono ?_; clear hC1; rintro e w' ⟨rfl, rfl⟩) | (refine (hC2 _).mono ?_; clear hC2; rintro e w' ⟨rfl, rfl⟩))
  all_goals (go_ret; exact ⟨rfl, rfl⟩)
set_option maxRecDepth 4000 in
theorem line_zmeqok (x y k v u kx : Nat) (w : World) (f1 : ∀ w, (callFunc 15 #[.int .u64 (x : Nat)]).run Try.prog w = .ok (.value (.float .f64 x)) w) (f2 : ∀ w, (callFunc 15 #[.int .u64 (y : Nat)]).run Try.prog w = .ok (.value (.float .f64 y)) w)
    (hK1 : ∀ w, Calls Try.prog 14 #[.float .f64 x] w fun e w' => e = .returned (.int .u64 (kx : Nat)) ∧ w' = w) (hA1 : ∀ w, Calls Try.prog 12 #[.int .u64 (kx : Nat)] w fun e w' => e = .returned (.tuple #[.float .f64 v, .int .i64 0]) ∧ w' = w)
    (hS : ∀ w, Calls Try.prog 47 #[.float .f64 v] w fun e w' => e = .returned (.bool false) ∧ w' = w) (hA2 : ∀ w, Calls Try.prog 12 #[.int .u64 (k : Nat)] w fun e w' => e = .returned (.tuple #[.float .f64 u, .int .i64 0]) ∧ w' = w) (hK2 : ∀ w, Calls Try.prog 14 #[.float .f64 u] w fun e w' => e = .returned (.int .u64 (k : Nat)) ∧ w' = w)
    (hC1 : ∀ w, Calls Try.prog 18 #[.float .f64 x, .float .f64 y] w fun e w' => e = .returned (.int .i64 (0)) ∧ w' = w) (hC2 : ∀ w, Calls Try.prog 18 #[.float .f64 y, .float .f64 x] w fun e w' => e = .returned (.int .i64 (0)) ∧ w' = w)
    (x0 : (FloatKind.f64.format.order x x == some .eq) = true) (x1 : (FloatKind.f64.format.order x x != some .eq) = false) (x2 : (FloatKind.f64.format.order v x != some .eq) = false) (x3 : (FloatKind.f64.format.order v 0 == some .eq) = true) (y0 : (FloatKind.f64.format.order y y == some .eq) = true) (y1 : (FloatKind.f64.format.order y y != some .eq) = false) (c0 : (FloatKind.f64.format.order x y == some .lt) = false) (c1 : (FloatKind.f64.format.order x y == some .eq) = true) (c2 : (FloatKind.f64.format.order x y == some .gt) = false) :
    Calls Try.prog 7 #[.int .u64 (x : Nat), .int .u64 (y : Nat), .int .u64 (k : Nat)] w fun e w' => e = .returned (.bool true) ∧ w' = w := by
  go_enter Try.func7, Try.ntmps7
  go_wp2_with first
    | (go_at_call 46; refine (begins_any _).mono ?_; rintro e w' ⟨rfl, rfl⟩)
    | (go_at_call 14; first | (refine (hK1 _).mono ?_; clear hK1; rintro e w' ⟨rfl, rfl⟩) | (refine (hK2 _).mono ?_; clear hK2; rintro e w' ⟨rfl, rfl⟩))
    | (go_at_call 12; first | (refine (hA1 _).mono ?_; clear hA1; rintro e w' ⟨rfl, rfl⟩) | (refine (hA2 _).mono ?_; clear hA2; rintro e w' ⟨rfl, rfl⟩))
    | (go_at_call 47; refine (hS _).mono ?_; rintro e w' ⟨rfl, rfl⟩)
    | (go_at_call 18; first | (refine (hC1 _).mono ?_; clear hC1; rintro e w' ⟨rfl, rfl⟩) | (refine (hC2 _).mono ?_; clear hC2; rintro e w' ⟨rfl, rfl⟩))
  all_goals (go_ret; exact ⟨rfl, rfl⟩)
set_option maxRecDepth 4000 in
theorem line_zmgtok (x y k v u kx : Nat) (w : World) (f1 : ∀ w, (callFunc 15 #[.int .u64 (x : Nat)]).run Try.prog w = .ok (.value (.float .f64 x)) w) (f2 : ∀ w, (callFunc 15 #[.int .u64 (y : Nat)]).run Try.prog w = .ok (.value (.float .f64 y)) w)
    (hK1 : ∀ w, Calls Try.prog 14 #[.float .f64 x] w fun e w' => e = .returned (.int .u64 (kx : Nat)) ∧ w' = w) (hA1 : ∀ w, Calls Try.prog 12 #[.int .u64 (kx : Nat)] w fun e w' => e = .returned (.tuple #[.float .f64 v, .int .i64 0]) ∧ w' = w)
    (hS : ∀ w, Calls Try.prog 47 #[.float .f64 v] w fun e w' => e = .returned (.bool false) ∧ w' = w) (hA2 : ∀ w, Calls Try.prog 12 #[.int .u64 (k : Nat)] w fun e w' => e = .returned (.tuple #[.float .f64 u, .int .i64 0]) ∧ w' = w) (hK2 : ∀ w, Calls Try.prog 14 #[.float .f64 u] w fun e w' => e = .returned (.int .u64 (k : Nat)) ∧ w' = w)
    (hC1 : ∀ w, Calls Try.prog 18 #[.float .f64 x, .float .f64 y] w fun e w' => e = .returned (.int .i64 (1)) ∧ w' = w) (hC2 : ∀ w, Calls Try.prog 18 #[.float .f64 y, .float .f64 x] w fun e w' => e = .returned (.int .i64 (-1)) ∧ w' = w)
    (x0 : (FloatKind.f64.format.order x x == some .eq) = true) (x1 : (FloatKind.f64.format.order x x != some .eq) = false) (x2 : (FloatKind.f64.format.order v x != some .eq) = false) (x3 : (FloatKind.f64.format.order v 0 == some .eq) = true) (y0 : (FloatKind.f64.format.order y y == some .eq) = true) (y1 : (FloatKind.f64.format.order y y != some .eq) = false) (c0 : (FloatKind.f64.format.order x y == some .lt) = false) (c1 : (FloatKind.f64.format.order x y == some .eq) = false) (c2 : (FloatKind.f64.format.order x y == some .gt) = true) :
    Calls Try.prog 7 #[.int .u64 (x : Nat), .int .u64 (y : Nat), .int .u64 (k : Nat)] w fun e w' => e = .returned (.bool true) ∧ w' = w := by
  go_enter Try.func7, Try.ntmps7
  go_wp2_with first
    | (go_at_call 46; refine (begins_any _).mono ?_; rintro e w' ⟨rfl, rfl⟩)
    | (go_at_call 14; first | (refine (hK1 _).mono ?_; clear hK1; rintro e w' ⟨rfl, rfl⟩) | (refine (hK2 _).mono ?_; clear hK2; rintro e w' ⟨rfl, rfl⟩))
    | (go_at_call 12; first | (refine (hA1 _).mono ?_; clear hA1; rintro e w' ⟨rfl, rfl⟩) | (refine (hA2 _).mono ?_; clear hA2; rintro e w' ⟨rfl, rfl⟩))
    | (go_at_call 47; refine (hS _).mono ?_; rintro e w' ⟨rfl, rfl⟩)
    | (go_at_call 18; first | (refine (hC1 _).mono ?_; clear hC1; rintro e w' ⟨rfl, rfl⟩) | (refine (hC2 _).mono ?_; clear hC2; rintro e w' ⟨rfl, rfl⟩))
  all_goals (go_ret; exact ⟨rfl, rfl⟩)
set_option maxRecDepth 4000 in
theorem line_omltok (x y k v u kx : Nat) (w : World) (f1 : ∀ w, (callFunc 15 #[.int .u64 (x : Nat)]).run Try.prog w = .ok (.value (.float .f64 x)) w) (f2 : ∀ w, (callFunc 15 #[.int .u64 (y : Nat)]).run Try.prog w = .ok (.value (.float .f64 y)) w)
    (hK1 : ∀ w, Calls Try.prog 14 #[.float .f64 x] w fun e w' => e = .returned (.int .u64 (kx : Nat)) ∧ w' = w) (hA1 : ∀ w, Calls Try.prog 12 #[.int .u64 (kx : Nat)] w fun e w' => e = .returned (.tuple #[.float .f64 v, .int .i64 0]) ∧ w' = w)
    (hA2 : ∀ w, Calls Try.prog 12 #[.int .u64 (k : Nat)] w fun e w' => e = .returned (.tuple #[.float .f64 u, .int .i64 0]) ∧ w' = w) (hK2 : ∀ w, Calls Try.prog 14 #[.float .f64 u] w fun e w' => e = .returned (.int .u64 (k : Nat)) ∧ w' = w)
    (hC1 : ∀ w, Calls Try.prog 18 #[.float .f64 x, .float .f64 y] w fun e w' => e = .returned (.int .i64 (-1)) ∧ w' = w) (hC2 : ∀ w, Calls Try.prog 18 #[.float .f64 y, .float .f64 x] w fun e w' => e = .returned (.int .i64 (1)) ∧ w' = w)
    (x0 : (FloatKind.f64.format.order x x == some .eq) = true) (x1 : (FloatKind.f64.format.order x x != some .eq) = false) (x2 : (FloatKind.f64.format.order v x != some .eq) = false) (x3 : (FloatKind.f64.format.order v 0 == some .eq) = false) (y0 : (FloatKind.f64.format.order y y == some .eq) = true) (y1 : (FloatKind.f64.format.order y y != some .eq) = false) (c0 : (FloatKind.f64.format.order x y == some .lt) = true) (c1 : (FloatKind.f64.format.order x y == some .eq) = false) (c2 : (FloatKind.f64.format.order x y == some .gt) = false) :
    Calls Try.prog 7 #[.int .u64 (x : Nat), .int .u64 (y : Nat), .int .u64 (k : Nat)] w fun e w' => e = .returned (.bool true) ∧ w' = w := by
  go_enter Try.func7, Try.ntmps7
  go_wp2_with first
    | (go_at_call 46; refine (begins_any _).mono ?_; rintro e w' ⟨rfl, rfl⟩)
    | (go_at_call 14; first | (refine (hK1 _).mono ?_; clear hK1; rintro e w' ⟨rfl, rfl⟩) | (refine (hK2 _).mono ?_; clear hK2; rintro e w' ⟨rfl, rfl⟩))
    | (go_at_call 12; first | (refine (hA1 _).mono ?_; clear hA1; rintro e w' ⟨rfl, rfl⟩) | (refine (hA2 _).mono ?_; clear hA2; rintro e w' ⟨rfl, rfl⟩))
    | (go_at_call 47; refine (hS _).mono ?_; rintro e w' ⟨rfl, rfl⟩)
    | (go_at_call 18; first | (refine (hC1 _).mono ?_; clear hC1; rintro e w' ⟨rfl, rfl⟩) | (refine (hC2 _).mono ?_; clear hC2; rintro e w' ⟨rfl, rfl⟩))
  all_goals (go_ret; exact ⟨rfl, rfl⟩)
set_option maxRecDepth 4000 in
theorem line_omeqok (x y k v u kx : Nat) (w : World) (f1 : ∀ w, (callFunc 15 #[.int .u64 (x : Nat)]).run Try.prog w = .ok (.value (.float .f64 x)) w) (f2 : ∀ w, (callFunc 15 #[.int .u64 (y : Nat)]).run Try.prog w = .ok (.value (.float .f64 y)) w)
    (hK1 : ∀ w, Calls Try.prog 14 #[.float .f64 x] w fun e w' => e = .returned (.int .u64 (kx : Nat)) ∧ w' = w) (hA1 : ∀ w, Calls Try.prog 12 #[.int .u64 (kx : Nat)] w fun e w' => e = .returned (.tuple #[.float .f64 v, .int .i64 0]) ∧ w' = w)
    (hA2 : ∀ w, Calls Try.prog 12 #[.int .u64 (k : Nat)] w fun e w' => e = .returned (.tuple #[.float .f64 u, .int .i64 0]) ∧ w' = w) (hK2 : ∀ w, Calls Try.prog 14 #[.float .f64 u] w fun e w' => e = .returned (.int .u64 (k : Nat)) ∧ w' = w)
    (hC1 : ∀ w, Calls Try.prog 18 #[.float .f64 x, .float .f64 y] w fun e w' => e = .returned (.int .i64 (0)) ∧ w' = w) (hC2 : ∀ w, Calls Try.prog 18 #[.float .f64 y, .float .f64 x] w fun e w' => e = .returned (.int .i64 (0)) ∧ w' = w)
    (x0 : (FloatKind.f64.format.order x x == some .eq) = true) (x1 : (FloatKind.f64.format.order x x != some .eq) = false) (x2 : (FloatKind.f64.format.order v x != some .eq) = false) (x3 : (FloatKind.f64.format.order v 0 == some .eq) = false) (y0 : (FloatKind.f64.format.order y y == some .eq) = true) (y1 : (FloatKind.f64.format.order y y != some .eq) = false) (c0 : (FloatKind.f64.format.order x y == some .lt) = false) (c1 : (FloatKind.f64.format.order x y == some .eq) = true) (c2 : (FloatKind.f64.format.order x y == some .gt) = false) :
    Calls Try.prog 7 #[.int .u64 (x : Nat), .int .u64 (y : Nat), .int .u64 (k : Nat)] w fun e w' => e = .returned (.bool true) ∧ w' = w := by
  go_enter Try.func7, Try.ntmps7
  go_wp2_with first
    | (go_at_call 46; refine (begins_any _).mono ?_; rintro e w' ⟨rfl, rfl⟩)
    | (go_at_call 14; first | (refine (hK1 _).mono ?_; clear hK1; rintro e w' ⟨rfl, rfl⟩) | (refine (hK2 _).mono ?_; clear hK2; rintro e w' ⟨rfl, rfl⟩))
    | (go_at_call 12; first | (refine (hA1 _).mono ?_; clear hA1; rintro e w' ⟨rfl, rfl⟩) | (refine (hA2 _).mono ?_; clear hA2; rintro e w' ⟨rfl, rfl⟩))
    | (go_at_call 47; refine (hS _).mono ?_; rintro e w' ⟨rfl, rfl⟩)
    | (go_at_call 18; first | (refine (hC1 _).mono ?_; clear hC1; rintro e w' ⟨rfl, rfl⟩) | (refine (hC2 _).mono ?_; clear hC2; rintro e w' ⟨rfl, rfl⟩))
  all_goals (go_ret; exact ⟨rfl, rfl⟩)
set_option maxRecDepth 4000 in
theorem line_omgtok (x y k v u kx : Nat) (w : World) (f1 : ∀ w, (callFunc 15 #[.int .u64 (x : Nat)]).run Try.prog w = .ok (.value (.float .f64 x)) w) (f2 : ∀ w, (callFunc 15 #[.int .u64 (y : Nat)]).run Try.prog w = .ok (.value (.float .f64 y)) w)
    (hK1 : ∀ w, Calls Try.prog 14 #[.float .f64 x] w fun e w' => e = .returned (.int .u64 (kx : Nat)) ∧ w' = w) (hA1 : ∀ w, Calls Try.prog 12 #[.int .u64 (kx : Nat)] w fun e w' => e = .returned (.tuple #[.float .f64 v, .int .i64 0]) ∧ w' = w)
    (hA2 : ∀ w, Calls Try.prog 12 #[.int .u64 (k : Nat)] w fun e w' => e = .returned (.tuple #[.float .f64 u, .int .i64 0]) ∧ w' = w) (hK2 : ∀ w, Calls Try.prog 14 #[.float .f64 u] w fun e w' => e = .returned (.int .u64 (k : Nat)) ∧ w' = w)
    (hC1 : ∀ w, Calls Try.prog 18 #[.float .f64 x, .float .f64 y] w fun e w' => e = .returned (.int .i64 (1)) ∧ w' = w) (hC2 : ∀ w, Calls Try.prog 18 #[.float .f64 y, .float .f64 x] w fun e w' => e = .returned (.int .i64 (-1)) ∧ w' = w)
    (x0 : (FloatKind.f64.format.order x x == some .eq) = true) (x1 : (FloatKind.f64.format.order x x != some .eq) = false) (x2 : (FloatKind.f64.format.order v x != some .eq) = false) (x3 : (FloatKind.f64.format.order v 0 == some .eq) = false) (y0 : (FloatKind.f64.format.order y y == some .eq) = true) (y1 : (FloatKind.f64.format.order y y != some .eq) = false) (c0 : (FloatKind.f64.format.order x y == some .lt) = false) (c1 : (FloatKind.f64.format.order x y == some .eq) = false) (c2 : (FloatKind.f64.format.order x y == some .gt) = true) :
    Calls Try.prog 7 #[.int .u64 (x : Nat), .int .u64 (y : Nat), .int .u64 (k : Nat)] w fun e w' => e = .returned (.bool true) ∧ w' = w := by
  go_enter Try.func7, Try.ntmps7
  go_wp2_with first
    | (go_at_call 46; refine (begins_any _).mono ?_; rintro e w' ⟨rfl, rfl⟩)
    | (go_at_call 14; first | (refine (hK1 _).mono ?_; clear hK1; rintro e w' ⟨rfl, rfl⟩) | (refine (hK2 _).mono ?_; clear hK2; rintro e w' ⟨rfl, rfl⟩))
    | (go_at_call 12; first | (refine (hA1 _).mono ?_; clear hA1; rintro e w' ⟨rfl, rfl⟩) | (refine (hA2 _).mono ?_; clear hA2; rintro e w' ⟨rfl, rfl⟩))
    | (go_at_call 47; refine (hS _).mono ?_; rintro e w' ⟨rfl, rfl⟩)
    | (go_at_call 18; first | (refine (hC1 _).mono ?_; clear hC1; rintro e w' ⟨rfl, rfl⟩) | (refine (hC2 _).mono ?_; clear hC2; rintro e w' ⟨rfl, rfl⟩))
  all_goals (go_ret; exact ⟨rfl, rfl⟩)
set_option maxRecDepth 4000 in
theorem line_nneqno (x y k v u kx : Nat) (w : World) (f1 : ∀ w, (callFunc 15 #[.int .u64 (x : Nat)]).run Try.prog w = .ok (.value (.float .f64 x)) w) (f2 : ∀ w, (callFunc 15 #[.int .u64 (y : Nat)]).run Try.prog w = .ok (.value (.float .f64 y)) w)
    (hK1 : ∀ w, Calls Try.prog 14 #[.float .f64 x] w fun e w' => e = .returned (.int .u64 (kx : Nat)) ∧ w' = w) (hA1 : ∀ w, Calls Try.prog 12 #[.int .u64 (kx : Nat)] w fun e w' => e = .returned (.tuple #[.float .f64 v, .int .i64 0]) ∧ w' = w)
    (hA2 : ∀ w, Calls Try.prog 12 #[.int .u64 (k : Nat)] w fun e w' => e = .returned (.tuple #[.float .f64 u, .int .i64 2]) ∧ w' = w)
    (hC1 : ∀ w, Calls Try.prog 18 #[.float .f64 x, .float .f64 y] w fun e w' => e = .returned (.int .i64 (0)) ∧ w' = w) (hC2 : ∀ w, Calls Try.prog 18 #[.float .f64 y, .float .f64 x] w fun e w' => e = .returned (.int .i64 (0)) ∧ w' = w)
    (x0 : (FloatKind.f64.format.order x x == some .eq) = false) (x1 : (FloatKind.f64.format.order x x != some .eq) = true) (x2 : (FloatKind.f64.format.order v v == some .eq) = false) (x3 : (FloatKind.f64.format.order v 0 == some .eq) = false) (y0 : (FloatKind.f64.format.order y y == some .eq) = false) (y1 : (FloatKind.f64.format.order y y != some .eq) = true) :
    Calls Try.prog 7 #[.int .u64 (x : Nat), .int .u64 (y : Nat), .int .u64 (k : Nat)] w fun e w' => e = .returned (.bool true) ∧ w' = w := by
  go_enter Try.func7, Try.ntmps7
  go_wp2_with first
    | (go_at_call 46; refine (begins_any _).mono ?_; rintro e w' ⟨rfl, rfl⟩)
    | (go_at_call 14; first | (refine (hK1 _).mono ?_; clear hK1; rintro e w' ⟨rfl, rfl⟩) | (refine (hK2 _).mono ?_; clear hK2; rintro e w' ⟨rfl, rfl⟩))
    | (go_at_call 12; first | (refine (hA1 _).mono ?_; clear hA1; rintro e w' ⟨rfl, rfl⟩) | (refine (hA2 _).mono ?_; clear hA2; rintro e w' ⟨rfl, rfl⟩))
    | (go_at_call 47; refine (hS _).mono ?_; rintro e w' ⟨rfl, rfl⟩)
    | (go_at_call 18; first | (refine (hC1 _).mono ?_; clear hC1; rintro e w' ⟨rfl, rfl⟩) | (refine (hC2 _).mono ?_; clear hC2; rintro e w' ⟨rfl, rfl⟩))
  all_goals (go_ret; exact ⟨rfl, rfl⟩)
set_option maxRecDepth 4000 in
theorem line_nmgtno (x y k v u kx : Nat) (w : World) (f1 : ∀ w, (callFunc 15 #[.int .u64 (x : Nat)]).run Try.prog w = .ok (.value (.float .f64 x)) w) (f2 : ∀ w, (callFunc 15 #[.int .u64 (y : Nat)]).run Try.prog w = .ok (.value (.float .f64 y)) w)
    (hK1 : ∀ w, Calls Try.prog 14 #[.float .f64 x] w fun e w' => e = .returned (.int .u64 (kx : Nat)) ∧ w' = w) (hA1 : ∀ w, Calls Try.prog 12 #[.int .u64 (kx : Nat)] w fun e w' => e = .returned (.tuple #[.float .f64 v, .int .i64 0]) ∧ w' = w)
    (hA2 : ∀ w, Calls Try.prog 12 #[.int .u64 (k : Nat)] w fun e w' => e = .returned (.tuple #[.float .f64 u, .int .i64 2]) ∧ w' = w)
    (hC1 : ∀ w, Calls Try.prog 18 #[.float .f64 x, .float .f64 y] w fun e w' => e = .returned (.int .i64 (1)) ∧ w' = w) (hC2 : ∀ w, Calls Try.prog 18 #[.float .f64 y, .float .f64 x] w fun e w' => e = .returned (.int .i64 (-1)) ∧ w' = w)
    (x0 : (FloatKind.f64.format.order x x == some .eq) = false) (x1 : (FloatKind.f64.format.order x x != some .eq) = true) (x2 : (FloatKind.f64.format.order v v == some .eq) = false) (x3 : (FloatKind.f64.format.order v 0 == some .eq) = false) (y0 : (FloatKind.f64.format.order y y == some .eq) = true) (y1 : (FloatKind.f64.format.order y y != some .eq) = false) :
    Calls Try.prog 7 #[.int .u64 (x : Nat), .int .u64 (y : Nat), .int .u64 (k : Nat)] w fun e w' => e = .returned (.bool true) ∧ w' = w := by
  go_enter Try.func7, Try.ntmps7
  go_wp2_with first
    | (go_at_call 46; refine (begins_any _).mono ?_; rintro e w' ⟨rfl, rfl⟩)
    | (go_at_call 14; first | (refine (hK1 _).mono ?_; clear hK1; rintro e w' ⟨rfl, rfl⟩) | (refine (hK2 _).mono ?_; clear hK2; rintro e w' ⟨rfl, rfl⟩))
    | (go_at_call 12; first | (refine (hA1 _).mono ?_; clear hA1; rintro e w' ⟨rfl, rfl⟩) | (refine (hA2 _).mono ?_; clear hA2; rintro e w' ⟨rfl, rfl⟩))
    | (go_at_call 47; refine (hS _).mono ?_; rintro e w' ⟨rfl, rfl⟩)
    | (go_at_call 18; first | (refine (hC1 _).mono ?_; clear hC1; rintro e w' ⟨rfl, rfl⟩) | (refine (hC2 _).mono ?_; clear hC2; rintro e w' ⟨rfl, rfl⟩))
  all_goals (go_ret; exact ⟨rfl, rfl⟩)
set_option maxRecDepth 4000 in
theorem line_znltno (x y k v u kx : Nat) (w : World) (f1 : ∀ w, (callFunc 15 #[.int .u64 (x : Nat)]).run Try.prog w = .ok (.value (.float .f64 x)) w) (f2 : ∀ w, (callFunc 15 #[.int .u64 (y : Nat)]).run Try.prog w = .ok (.value (.float .f64 y)) w)
    (hK1 : ∀ w, Calls Try.prog 14 #[.float .f64 x] w fun e w' => e = .returned (.int .u64 (kx : Nat)) ∧ w' = w) (hA1 : ∀ w, Calls Try.prog 12 #[.int .u64 (kx : Nat)] w fun e w' => e = .returned (.tuple #[.float .f64 v, .int .i64 0]) ∧ w' = w)
    (hS : ∀ w, Calls Try.prog 47 #[.float .f64 v] w fun e w' => e = .returned (.bool false) ∧ w' = w) (hA2 : ∀ w, Calls Try.prog 12 #[.int .u64 (k : Nat)] w fun e w' => e = .returned (.tuple #[.float .f64 u, .int .i64 2]) ∧ w' = w)
    (hC1 : ∀ w, Calls Try.prog 18 #[.float .f64 x, .float .f64 y] w fun e w' => e = .returned (.int .i64 (-1)) ∧ w' = w) (hC2 : ∀ w, Calls Try.prog 18 #[.float .f64 y, .float .f64 x] w fun e w' => e = .returned (.int .i64 (1)) ∧ w' = w)
    (x0 : (FloatKind.f64.format.order x x == some .eq) = true) (x1 : (FloatKind.f64.format.order x x != some .eq) = false) (x2 : (FloatKind.f64.format.order v x != some .eq) = false) (x3 : (FloatKind.f64.format.order v 0 == some .eq) = true) (y0 : (FloatKind.f64.format.order y y == some .eq) = false) (y1 : (FloatKind.f64.format.order y y != some .eq) = true) :
    Calls Try.prog 7 #[.int .u64 (x : Nat), .int .u64 (y : Nat), .int .u64 (k : Nat)] w fun e w' => e = .returned (.bool true) ∧ w' = w := by
  go_enter Try.func7, Try.ntmps7
  go_wp2_with first
    | (go_at_call 46; refine (begins_any _).mono ?_; rintro e w' ⟨rfl, rfl⟩)
    | (go_at_call 14; first | (refine (hK1 _).mono ?_; clear hK1; rintro e w' ⟨rfl, rfl⟩) | (refine (hK2 _).mono ?_; clear hK2; rintro e w' ⟨rfl, rfl⟩))
    | (go_at_call 12; first | (refine (hA1 _).mono ?_; clear hA1; rintro e w' ⟨rfl, rfl⟩) | (refine (hA2 _).mono ?_; clear hA2; rintro e w' ⟨rfl, rfl⟩))
    | (go_at_call 47; refine (hS _).mono ?_; rintro e w' ⟨rfl, rfl⟩)
    | (go_at_call 18; first | (refine (hC1 _).mono ?_; clear hC1; rintro e w' ⟨rfl, rfl⟩) | (refine (hC2 _).mono ?_; clear hC2; rintro e w' ⟨rfl, rfl⟩))
  all_goals (go_ret; exact ⟨rfl, rfl⟩)
set_option maxRecDepth 4000 in
theorem line_onltno (x y k v u kx : Nat) (w : World) (f1 : ∀ w, (callFunc 15 #[.int .u64 (x : Nat)]).run Try.prog w = .ok (.value (.float .f64 x)) w) (f2 : ∀ w, (callFunc 15 #[.int .u64 (y : Nat)]).run Try.prog w = .ok (.value (.float .f64 y)) w)
    (hK1 : ∀ w, Calls Try.prog 14 #[.float .f64 x] w fun e w' => e = .returned (.int .u64 (kx : Nat)) ∧ w' = w) (hA1 : ∀ w, Calls Try.prog 12 #[.int .u64 (kx : Nat)] w fun e w' => e = .returned (.tuple #[.float .f64 v, .int .i64 0]) ∧ w' = w)
    (hA2 : ∀ w, Calls Try.prog 12 #[.int .u64 (k : Nat)] w fun e w' => e = .returned (.tuple #[.float .f64 u, .int .i64 2]) ∧ w' = w)
    (hC1 : ∀ w, Calls Try.prog 18 #[.float .f64 x, .float .f64 y] w fun e w' => e = .returned (.int .i64 (-1)) ∧ w' = w) (hC2 : ∀ w, Calls Try.prog 18 #[.float .f64 y, .float .f64 x] w fun e w' => e = .returned (.int .i64 (1)) ∧ w' = w)
    (x0 : (FloatKind.f64.format.order x x == some .eq) = true) (x1 : (FloatKind.f64.format.order x x != some .eq) = false) (x2 : (FloatKind.f64.format.order v x != some .eq) = false) (x3 : (FloatKind.f64.format.order v 0 == some .eq) = false) (y0 : (FloatKind.f64.format.order y y == some .eq) = false) (y1 : (FloatKind.f64.format.order y y != some .eq) = true) :
    Calls Try.prog 7 #[.int .u64 (x : Nat), .int .u64 (y : Nat), .int .u64 (k : Nat)] w fun e w' => e = .returned (.bool true) ∧ w' = w := by
  go_enter Try.func7, Try.ntmps7
  go_wp2_with first
    | (go_at_call 46; refine (begins_any _).mono ?_; rintro e w' ⟨rfl, rfl⟩)
    | (go_at_call 14; first | (refine (hK1 _).mono ?_; clear hK1; rintro e w' ⟨rfl, rfl⟩) | (refine (hK2 _).mono ?_; clear hK2; rintro e w' ⟨rfl, rfl⟩))
    | (go_at_call 12; first | (refine (hA1 _).mono ?_; clear hA1; rintro e w' ⟨rfl, rfl⟩) | (refine (hA2 _).mono ?_; clear hA2; rintro e w' ⟨rfl, rfl⟩))
    | (go_at_call 47; refine (hS _).mono ?_; rintro e w' ⟨rfl, rfl⟩)
    | (go_at_call 18; first | (refine (hC1 _).mono ?_; clear hC1; rintro e w' ⟨rfl, rfl⟩) | (refine (hC2 _).mono ?_; clear hC2; rintro e w' ⟨rfl, rfl⟩))
  all_goals (go_ret; exact ⟨rfl, rfl⟩)
set_option maxRecDepth 4000 in
theorem line_zmltno (x y k v u kx : Nat) (w : World) (f1 : ∀ w, (callFunc 15 #[.int .u64 (x : Nat)]).run Try.prog w = .ok (.value (.float .f64 x)) w) (f2 : ∀ w, (callFunc 15 #[.int .u64 (y : Nat)]).run Try.prog w = .ok (.value (.float .f64 y)) w)
    (hK1 : ∀ w, Calls Try.prog 14 #[.float .f64 x] w fun e w' => e = .returned (.int .u64 (kx : Nat)) ∧ w' = w) (hA1 : ∀ w, Calls Try.prog 12 #[.int .u64 (kx : Nat)] w fun e w' => e = .returned (.tuple #[.float .f64 v, .int .i64 0]) ∧ w' = w)
    (hS : ∀ w, Calls Try.prog 47 #[.float .f64 v] w fun e w' => e = .returned (.bool false) ∧ w' = w) (hA2 : ∀ w, Calls Try.prog 12 #[.int .u64 (k : Nat)] w fun e w' => e = .returned (.tuple #[.float .f64 u, .int .i64 2]) ∧ w' = w)
    (hC1 : ∀ w, Calls Try.prog 18 #[.float .f64 x, .float .f64 y] w fun e w' => e = .returned (.int .i64 (-1)) ∧ w' = w) (hC2 : ∀ w, Calls Try.prog 18 #[.float .f64 y, .float .f64 x] w fun e w' => e = .returned (.int .i64 (1)) ∧ w' = w)
    (x0 : (FloatKind.f64.format.order x x == some .eq) = true) (x1 : (FloatKind.f64.format.order x x != some .eq) = false) (x2 : (FloatKind.f64.format.order v x != some .eq) = false) (x3 : (FloatKind.f64.format.order v 0 == some .eq) = true) (y0 : (FloatKind.f64.format.order y y == some .eq) = true) (y1 : (FloatKind.f64.format.order y y != some .eq) = false) (c0 : (FloatKind.f64.format.order x y == some .lt) = true) (c1 : (FloatKind.f64.format.order x y == some .eq) = false) (c2 : (FloatKind.f64.format.order x y == some .gt) = false) :
    Calls Try.prog 7 #[.int .u64 (x : Nat), .int .u64 (y : Nat), .int .u64 (k : Nat)] w fun e w' => e = .returned (.bool true) ∧ w' = w := by
  go_enter Try.func7, Try.ntmps7
  go_wp2_with first
    | (go_at_call 46; refine (begins_any _).mono ?_; rintro e w' ⟨rfl, rfl⟩)
    | (go_at_call 14; first | (refine (hK1 _).mono ?_; clear hK1; rintro e w' ⟨rfl, rfl⟩) | (refine (hK2 _).mono ?_; clear hK2; rintro e w' ⟨rfl, rfl⟩))
    | (go_at_call 12; first | (refine (hA1 _).mono ?_; clear hA1; rintro e w' ⟨rfl, rfl⟩) | (refine (hA2 _).mono ?_; clear hA2; rintro e w' ⟨rfl, rfl⟩))
    | (go_at_call 47; refine (hS _).mono ?_; rintro e w' ⟨rfl, rfl⟩)
    | (go_at_call 18; first | (refine (hC1 _).mono ?_; clear hC1; rintro e w' ⟨rfl, rfl⟩) | (refine (hC2 _).mono ?_; clear hC2; rintro e w' ⟨rfl, rfl⟩))
  all_goals (go_ret; exact ⟨rfl, rfl⟩)
set_option maxRecDepth 4000 in
theorem line_zmeqno (x y k v u kx : Nat) (w : World) (f1 : ∀ w, (callFunc 15 #[.int .u64 (x : Nat)]).run Try.prog w = .ok (.value (.float .f64 x)) w) (f2 : ∀ w, (callFunc 15 #[.int .u64 (y : Nat)]).run Try.prog w = .ok (.value (.float .f64 y)) w)
    (hK1 : ∀ w, Calls Try.prog 14 #[.float .f64 x] w fun e w' => e = .returned (.int .u64 (kx : Nat)) ∧ w' = w) (hA1 : ∀ w, Calls Try.prog 12 #[.int .u64 (kx : Nat)] w fun e w' => e = .returned (.tuple #[.float .f64 v, .int .i64 0]) ∧ w' = w)
    (hS : ∀ w, Calls Try.prog 47 #[.float .f64 v] w fun e w' => e = .returned (.bool false) ∧ w' = w) (hA2 : ∀ w, Calls Try.prog 12 #[.int .u64 (k : Nat)] w fun e w' => e = .returned (.tuple #[.float .f64 u, .int .i64 2]) ∧ w' = w)
    (hC1 : ∀ w, Calls Try.prog 18 #[.float .f64 x, .float .f64 y] w fun e w' => e = .returned (.int .i64 (0)) ∧ w' = w) (hC2 : ∀ w, Calls Try.prog 18 #[.float .f64 y, .float .f64 x] w fun e w' => e = .returned (.int .i64 (0)) ∧ w' = w)
    (x0 : (FloatKind.f64.format.order x x == some .eq) = true) (x1 : (FloatKind.f64.format.order x x != some .eq) = false) (x2 : (FloatKind.f64.format.order v x != some .eq) = false) (x3 : (FloatKind.f64.format.order v 0 == some .eq) = true) (y0 : (FloatKind.f64.format.order y y == some .eq) = true) (y1 : (FloatKind.f64.format.order y y != some .eq) = false) (c0 : (FloatKind.f64.format.order x y == some .lt) = false) (c1 : (FloatKind.f64.format.order x y == some .eq) = true) (c2 : (FloatKind.f64.format.order x y == some .gt) = false) :
    Calls Try.prog 7 #[.int .u64 (x : Nat), .int .u64 (y : Nat), .int .u64 (k : Nat)] w fun e w' => e = .returned (.bool true) ∧ w' = w := by
  go_enter Try.func7, Try.ntmps7
  go_wp2_with first
    | (go_at_call 46; refine (begins_any _).mono ?_; rintro e w' ⟨rfl, rfl⟩)
    | (go_at_call 14; first | (refine (hK1 _).mono ?_; clear hK1; rintro e w' ⟨rfl, rfl⟩) | (refine (hK2 _).mono ?_; clear hK2; rintro e w' ⟨rfl, rfl⟩))
    | (go_at_call 12; first | (refine (hA1 _).mono ?_; clear hA1; rintro e w' ⟨rfl, rfl⟩) | (refine (hA2 _).mono ?_; clear hA2; rintro e w' ⟨rfl, rfl⟩))
    | (go_at_call 47; refine (hS _).mono ?_; rintro e w' ⟨rfl, rfl⟩)
    | (go_at_call 18; first | (refine (hC1 _).mono ?_; clear hC1; rintro e w' ⟨rfl, rfl⟩) | (refine (hC2 _).mono ?_; clear hC2; rintro e w' ⟨rfl, rfl⟩))
  all_goals (go_ret; exact ⟨rfl, rfl⟩)
set_option maxRecDepth 4000 in
theorem line_zmgtno (x y k v u kx : Nat) (w : World) (f1 : ∀ w, (callFunc 15 #[.int .u64 (x : Nat)]).run Try.prog w = .ok (.value (.float .f64 x)) w) (f2 : ∀ w, (callFunc 15 #[.int .u64 (y : Nat)]).run Try.prog w = .ok (.value (.float .f64 y)) w)
    (hK1 : ∀ w, Calls Try.prog 14 #[.float .f64 x] w fun e w' => e = .returned (.int .u64 (kx : Nat)) ∧ w' = w) (hA1 : ∀ w, Calls Try.prog 12 #[.int .u64 (kx : Nat)] w fun e w' => e = .returned (.tuple #[.float .f64 v, .int .i64 0]) ∧ w' = w)
    (hS : ∀ w, Calls Try.prog 47 #[.float .f64 v] w fun e w' => e = .returned (.bool false) ∧ w' = w) (hA2 : ∀ w, Calls Try.prog 12 #[.int .u64 (k : Nat)] w fun e w' => e = .returned (.tuple #[.float .f64 u, .int .i64 2]) ∧ w' = w)
    (hC1 : ∀ w, Calls Try.prog 18 #[.float .f64 x, .float .f64 y] w fun e w' => e = .returned (.int .i64 (1)) ∧ w' = w) (hC2 : ∀ w, Calls Try.prog 18 #[.float .f64 y, .float .f64 x] w fun e w' => e = .returned (.int .i64 (-1)) ∧ w' = w)
    (x0 : (FloatKind.f64.format.order x x == some .eq) = true) (x1 : (FloatKind.f64.format.order x x != some .eq) = false) (x2 : (FloatKind.f64.format.order v x != some .eq) = false) (x3 : (FloatKind.f64.format.order v 0 == some .eq) = true) (y0 : (FloatKind.f64.format.order y y == some .eq) = true) (y1 : (FloatKind.f64.format.order y y != some .eq) = false) (c0 : (FloatKind.f64.format.order x y == some .lt) = false) (c1 : (FloatKind.f64.format.order x y == some .eq) = false) (c2 : (FloatKind.f64.format.order x y == some .gt) = true) :
    Calls Try.prog 7 #[.int .u64 (x : Nat), .int .u64 (y : Nat), .int .u64 (k : Nat)] w fun e w' => e = .returned (.bool true) ∧ w' = w := by
  go_enter Try.func7, Try.ntmps7
  go_wp2_with first
    | (go_at_call 46; refine (begins_any _).mono ?_; rintro e w' ⟨rfl, rfl⟩)
    | (go_at_call 14; first | (refine (hK1 _).mono ?_; clear hK1; rintro e w' ⟨rfl, rfl⟩) | (refine (hK2 _).mono ?_; clear hK2; rintro e w' ⟨rfl, rfl⟩))
    | (go_at_call 12; first | (refine (hA1 _).mono ?_; clear hA1; rintro e w' ⟨rfl, rfl⟩) | (refine (hA2 _).mono ?_; clear hA2; rintro e w' ⟨rfl, rfl⟩))
    | (go_at_call 47; refine (hS _).mono ?_; rintro e w' ⟨rfl, rfl⟩)
    | (go_at_call 18; first | (refine (hC1 _).mono ?_; clear hC1; rintro e w' ⟨rfl, rfl⟩) | (refine (hC2 _).mono ?_; clear hC2; rintro e w' ⟨rfl, rfl⟩))
  all_goals (go_ret; exact ⟨rfl, rfl⟩)
set_option maxRecDepth 4000 in
theorem line_omltno (x y k v u kx : Nat) (w : World) (f1 : ∀ w, (callFunc 15 #[.int .u64 (x : Nat)]).run Try.prog w = .ok (.value (.float .f64 x)) w) (f2 : ∀ w, (callFunc 15 #[.int .u64 (y : Nat)]).run Try.prog w = .ok (.value (.float .f64 y)) w)
    (hK1 : ∀ w, Calls Try.prog 14 #[.float .f64 x] w fun e w' => e = .returned (.int .u64 (kx : Nat)) ∧ w' = w) (hA1 : ∀ w, Calls Try.prog 12 #[.int .u64 (kx : Nat)] w fun e w' => e = .returned (.tuple #[.float .f64 v, .int .i64 0]) ∧ w' = w)
    (hA2 : ∀ w, Calls Try.prog 12 #[.int .u64 (k : Nat)] w fun e w' => e = .returned (.tuple #[.float .f64 u, .int .i64 2]) ∧ w' = w)
    (hC1 : ∀ w, Calls Try.prog 18 #[.float .f64 x, .float .f64 y] w fun e w' => e = .returned (.int .i64 (-1)) ∧ w' = w) (hC2 : ∀ w, Calls Try.prog 18 #[.float .f64 y, .float .f64 x] w fun e w' => e = .returned (.int .i64 (1)) ∧ w' = w)
    (x0 : (FloatKind.f64.format.order x x == some .eq) = true) (x1 : (FloatKind.f64.format.order x x != some .eq) = false) (x2 : (FloatKind.f64.format.order v x != some .eq) = false) (x3 : (FloatKind.f64.format.order v 0 == some .eq) = false) (y0 : (FloatKind.f64.format.order y y == some .eq) = true) (y1 : (FloatKind.f64.format.order y y != some .eq) = false) (c0 : (FloatKind.f64.format.order x y == some .lt) = true) (c1 : (FloatKind.f64.format.order x y == some .eq) = false) (c2 : (FloatKind.f64.format.order x y == some .gt) = false) :
    Calls Try.prog 7 #[.int .u64 (x : Nat), .int .u64 (y : Nat), .int .u64 (k : Nat)] w fun e w' => e = .returned (.bool true) ∧ w' = w := by
  go_enter Try.func7, Try.ntmps7
  go_wp2_with first
    | (go_at_call 46; refine (begins_any _).mono ?_; rintro e w' ⟨rfl, rfl⟩)
    | (go_at_call 14; first | (refine (hK1 _).mono ?_; clear hK1; rintro e w' ⟨rfl, rfl⟩) | (refine (hK2 _).mono ?_; clear hK2; rintro e w' ⟨rfl, rfl⟩))
    | (go_at_call 12; first | (refine (hA1 _).mono ?_; clear hA1; rintro e w' ⟨rfl, rfl⟩) | (refine (hA2 _).mono ?_; clear hA2; rintro e w' ⟨rfl, rfl⟩))
    | (go_at_call 47; refine (hS _).mono ?_; rintro e w' ⟨rfl, rfl⟩)
    | (go_at_call 18; first | (refine (hC1 _).mono ?_; clear hC1; rintro e w' ⟨rfl, rfl⟩) | (refine (hC2 _).mono ?_; clear hC2; rintro e w' ⟨rfl, rfl⟩))
  all_goals (go_ret; exact ⟨rfl, rfl⟩)
set_option maxRecDepth 4000 in
theorem line_omeqno (x y k v u kx : Nat) (w : World) (f1 : ∀ w, (callFunc 15 #[.int .u64 (x : Nat)]).run Try.prog w = .ok (.value (.float .f64 x)) w) (f2 : ∀ w, (callFunc 15 #[.int .u64 (y : Nat)]).run Try.prog w = .ok (.value (.float .f64 y)) w)
    (hK1 : ∀ w, Calls Try.prog 14 #[.float .f64 x] w fun e w' => e = .returned (.int .u64 (kx : Nat)) ∧ w' = w) (hA1 : ∀ w, Calls Try.prog 12 #[.int .u64 (kx : Nat)] w fun e w' => e = .returned (.tuple #[.float .f64 v, .int .i64 0]) ∧ w' = w)
    (hA2 : ∀ w, Calls Try.prog 12 #[.int .u64 (k : Nat)] w fun e w' => e = .returned (.tuple #[.float .f64 u, .int .i64 2]) ∧ w' = w)
    (hC1 : ∀ w, Calls Try.prog 18 #[.float .f64 x, .float .f64 y] w fun e w' => e = .returned (.int .i64 (0)) ∧ w' = w) (hC2 : ∀ w, Calls Try.prog 18 #[.float .f64 y, .float .f64 x] w fun e w' => e = .returned (.int .i64 (0)) ∧ w' = w)
    (x0 : (FloatKind.f64.format.order x x == some .eq) = true) (x1 : (FloatKind.f64.format.order x x != some .eq) = false) (x2 : (FloatKind.f64.format.order v x != some .eq) = false) (x3 : (FloatKind.f64.format.order v 0 == some .eq) = false) (y0 : (FloatKind.f64.format.order y y == some .eq) = true) (y1 : (FloatKind.f64.format.order y y != some .eq) = false) (c0 : (FloatKind.f64.format.order x y == some .lt) = false) (c1 : (FloatKind.f64.format.order x y == some .eq) = true) (c2 : (FloatKind.f64.format.order x y == some .gt) = false) :
    Calls Try.prog 7 #[.int .u64 (x : Nat), .int .u64 (y : Nat), .int .u64 (k : Nat)] w fun e w' => e = .returned (.bool true) ∧ w' = w := by
  go_enter Try.func7, Try.ntmps7
  go_wp2_with first
    | (go_at_call 46; refine (begins_any _).mono ?_; rintro e w' ⟨rfl, rfl⟩)
    | (go_at_call 14; first | (refine (hK1 _).mono ?_; clear hK1; rintro e w' ⟨rfl, rfl⟩) | (refine (hK2 _).mono ?_; clear hK2; rintro e w' ⟨rfl, rfl⟩))
    | (go_at_call 12; first | (refine (hA1 _).mono ?_; clear hA1; rintro e w' ⟨rfl, rfl⟩) | (refine (hA2 _).mono ?_; clear hA2; rintro e w' ⟨rfl, rfl⟩))
    | (go_at_call 47; refine (hS _).mono ?_; rintro e w' ⟨rfl, rfl⟩)
    | (go_at_call 18; first | (refine (hC1 _).mono ?_; clear hC1; rintro e w' ⟨rfl, rfl⟩) | (refine (hC2 _).mono ?_; clear hC2; rintro e w' ⟨rfl, rfl⟩))
  all_goals (go_ret; exact ⟨rfl, rfl⟩)
set_option maxRecDepth 4000 in
theorem line_omgtno (x y k v u kx : Nat) (w : World) (f1 : ∀ w, (callFunc 15 #[.int .u64 (x : Nat)]).run Try.prog w = .ok (.value (.float .f64 x)) w) (f2 : ∀ w, (callFunc 15 #[.int .u64 (y : Nat)]).run Try.prog w = .ok (.value (.float .f64 y)) w)
    (hK1 : ∀ w, Calls Try.prog 14 #[.float .f64 x] w fun e w' => e = .returned (.int .u64 (kx : Nat)) ∧ w' = w) (hA1 : ∀ w, Calls Try.prog 12 #[.int .u64 (kx : Nat)] w fun e w' => e = .returned (.tuple #[.float .f64 v, .int .i64 0]) ∧ w' = w)
    (hA2 : ∀ w, Calls Try.prog 12 #[.int .u64 (k : Nat)] w fun e w' => e = .returned (.tuple #[.float .f64 u, .int .i64 2]) ∧ w' = w)
    (hC1 : ∀ w, Calls Try.prog 18 #[.float .f64 x, .float .f64 y] w fun e w' => e = .returned (.int .i64 (1)) ∧ w' = w) (hC2 : ∀ w, Calls Try.prog 18 #[.float .f64 y, .float .f64 x] w fun e w' => e = .returned (.int .i64 (-1)) ∧ w' = w)
    (x0 : (FloatKind.f64.format.order x x == some .eq) = true) (x1 : (FloatKind.f64.format.order x x != some .eq) = false) (x2 : (FloatKind.f64.format.order v x != some .eq) = false) (x3 : (FloatKind.f64.format.order v 0 == some .eq) = false) (y0 : (FloatKind.f64.format.order y y == some .eq) = true) (y1 : (FloatKind.f64.format.order y y != some .eq) = false) (c0 : (FloatKind.f64.format.order x y == some .lt) = false) (c1 : (FloatKind.f64.format.order x y == some .eq) = false) (c2 : (FloatKind.f64.format.order x y == some .gt) = true) :
    Calls Try.prog 7 #[.int .u64 (x : Nat), .int .u64 (y : Nat), .int .u64 (k : Nat)] w fun e w' => e = .returned (.bool true) ∧ w' = w := by
  go_enter Try.func7, Try.ntmps7
  go_wp2_with first
    | (go_at_call 46; refine (begins_any _).mono ?_; rintro e w' ⟨rfl, rfl⟩)
    | (go_at_call 14; first | (refine (hK1 _).mono ?_; clear hK1; rintro e w' ⟨rfl, rfl⟩) | (refine (hK2 _).mono ?_; clear hK2; rintro e w' ⟨rfl, rfl⟩))
    | (go_at_call 12; first | (refine (hA1 _).mono ?_; clear hA1; rintro e w' ⟨rfl, rfl⟩) | (refine (hA2 _).mono ?_; clear hA2; rintro e w' ⟨rfl, rfl⟩))
    | (go_at_call 47; refine (hS _).mono ?_; rintro e w' ⟨rfl, rfl⟩)
    | (go_at_call 18; first | (refine (hC1 _).mono ?_; clear hC1; rintro e w' ⟨rfl, rfl⟩) | (refine (hC2 _).mono ?_; clear hC2; rintro e w' ⟨rfl, rfl⟩))
  all_goals (go_ret; exact ⟨rfl, rfl⟩)
theorem law_line (x y k : Nat) (w : World) (hx : x < 18446744073709551616) (hy : y < 18446744073709551616) (_ : k < 18446744073709551616) :
    Calls Try.prog 7 #[.int .u64 (x : Nat), .int .u64 (y : Nat), .int .u64 (k : Nat)] w fun e w' => e = .returned (.bool true) ∧ w' = w := by
  have f1 := f64from x
  have f2 := f64from y
  have hK1 := fun w => Key_any x w hx
  have hA1 := fun w => At_any (key x) w
  rw [atE_ok (key_le x)] at hA1
  obtain ⟨bv, bn, bm, bz⟩ := back x
  generalize atB 9221120237041090561 (key x) = v at hA1 bv bn bm bz
  have hS := fun w => Signbit_any v w bv
  have hA2 := fun w => At_any k w
  have hC1 := fun w => Compare_any x y w hx hy
  have hC2 := fun w => Compare_any y x w hy hx
  have n0 : ¬ isNaN 0 := by decide
  have lx := key_le x
  have ly := key_le y
  by_cases kk : k ≤ 18437736874454810625
  · have hK2 := fun w => Key_any (atB 9221120237041090561 k) w (atB_lt' k)
    rw [atB_key kk] at hK2
    rw [atE_ok kk] at hA2
    by_cases nx : isNaN x
    · have kx := nan_key.1 nx
      by_cases ny : isNaN y
      · have l : key x = key y := by rw [kx, nan_key.1 ny]
        rw [cmpV_eq l] at hC1; rw [cmpV_eq l.symm] at hC2
        exact line_nneqok x y k v _ (key x) w f1 f2 hK1 hA1 hA2 hK2 hC1 hC2 (by rw [ord_nan (.inl nx)]; rfl) (by rw [ord_nan (.inl nx)]; rfl) (by rw [ord_nan (.inl (bn nx))]; rfl) (by rw [ord_nan (.inl (bn nx))]; rfl) (by rw [ord_nan (.inl ny)]; rfl) (by rw [ord_nan (.inl ny)]; rfl)
      · have l : key y < key x := by have := mt nan_key.2 ny; omega
        rw [cmpV_gt l] at hC1; rw [cmpV_lt l] at hC2
        exact line_nmgtok x y k v _ (key x) w f1 f2 hK1 hA1 hA2 hK2 hC1 hC2 (by rw [ord_nan (.inl nx)]; rfl) (by rw [ord_nan (.inl nx)]; rfl) (by rw [ord_nan (.inl (bn nx))]; rfl) (by rw [ord_nan (.inl (bn nx))]; rfl) (by rw [ord_eq hy hy ny ny rfl]; rfl) (by rw [ord_eq hy hy ny ny rfl]; rfl)
    · have kx := mt nan_key.2 nx
      have nv := (bm nx).1
      by_cases z : key v = 9218868437227405312
      · have zz : (FloatKind.f64.format.order v 0 == some .eq) = true := by rw [ord_eq bv (by omega) nv n0 (z.trans (by decide))]; rfl
        have v0 := bz nv z
        rw [show decide (9223372036854775808 ≤ v) = false by rw [v0]; decide] at hS
        by_cases ny : isNaN y
        · have l : key x < key y := by have := nan_key.1 ny; omega
          rw [cmpV_lt l] at hC1; rw [cmpV_gt l] at hC2
          exact line_znltok x y k v _ (key x) w f1 f2 hK1 hA1 hS hA2 hK2 hC1 hC2 (by rw [ord_eq hx hx nx nx rfl]; rfl) (by rw [ord_eq hx hx nx nx rfl]; rfl) (by rw [ord_eq bv hx (bm nx).1 nx (bm nx).2]; rfl) zz (by rw [ord_nan (.inl ny)]; rfl) (by rw [ord_nan (.inl ny)]; rfl)
        · rcases Nat.lt_trichotomy (key x) (key y) with l | l | l
          · rw [cmpV_lt l] at hC1; rw [cmpV_gt l] at hC2
            exact line_zmltok x y k v _ (key x) w f1 f2 hK1 hA1 hS hA2 hK2 hC1 hC2 (by rw [ord_eq hx hx nx nx rfl]; rfl) (by rw [ord_eq hx hx nx nx rfl]; rfl) (by rw [ord_eq bv hx (bm nx).1 nx (bm nx).2]; rfl) zz (by rw [ord_eq hy hy ny ny rfl]; rfl) (by rw [ord_eq hy hy ny ny rfl]; rfl) (by rw [ord_lt hx hy nx ny l]; rfl) (by rw [ord_lt hx hy nx ny l]; rfl) (by rw [ord_lt hx hy nx ny l]; rfl)
          · rw [cmpV_eq l] at hC1; rw [cmpV_eq l.symm] at hC2
            exact line_zmeqok x y k v _ (key x) w f1 f2 hK1 hA1 hS hA2 hK2 hC1 hC2 (by rw [ord_eq hx hx nx nx rfl]; rfl) (by rw [ord_eq hx hx nx nx rfl]; rfl) (by rw [ord_eq bv hx (bm nx).1 nx (bm nx).2]; rfl) zz (by rw [ord_eq hy hy ny ny rfl]; rfl) (by rw [ord_eq hy hy ny ny rfl]; rfl) (by rw [ord_eq hx hy nx ny l]; rfl) (by rw [ord_eq hx hy nx ny l]; rfl) (by rw [ord_eq hx hy nx ny l]; rfl)
          · rw [cmpV_gt l] at hC1; rw [cmpV_lt l] at hC2
            exact line_zmgtok x y k v _ (key x) w f1 f2 hK1 hA1 hS hA2 hK2 hC1 hC2 (by rw [ord_eq hx hx nx nx rfl]; rfl) (by rw [ord_eq hx hx nx nx rfl]; rfl) (by rw [ord_eq bv hx (bm nx).1 nx (bm nx).2]; rfl) zz (by rw [ord_eq hy hy ny ny rfl]; rfl) (by rw [ord_eq hy hy ny ny rfl]; rfl) (by rw [ord_gt hx hy nx ny l]; rfl) (by rw [ord_gt hx hy nx ny l]; rfl) (by rw [ord_gt hx hy nx ny l]; rfl)
      · have zz : (FloatKind.f64.format.order v 0 == some .eq) = false := by
          rcases Nat.lt_trichotomy (key v) (key 0) with l | l | l
          · rw [ord_lt bv (by omega) nv n0 l]; rfl
          · exact absurd (l.trans (by decide)) z
          · rw [ord_gt bv (by omega) nv n0 l]; rfl
        by_cases ny : isNaN y
        · have l : key x < key y := by have := nan_key.1 ny; omega
          rw [cmpV_lt l] at hC1; rw [cmpV_gt l] at hC2
          exact line_onltok x y k v _ (key x) w f1 f2 hK1 hA1 hA2 hK2 hC1 hC2 (by rw [ord_eq hx hx nx nx rfl]; rfl) (by rw [ord_eq hx hx nx nx rfl]; rfl) (by rw [ord_eq bv hx (bm nx).1 nx (bm nx).2]; rfl) zz (by rw [ord_nan (.inl ny)]; rfl) (by rw [ord_nan (.inl ny)]; rfl)
        · rcases Nat.lt_trichotomy (key x) (key y) with l | l | l
          · rw [cmpV_lt l] at hC1; rw [cmpV_gt l] at hC2
            exact line_omltok x y k v _ (key x) w f1 f2 hK1 hA1 hA2 hK2 hC1 hC2 (by rw [ord_eq hx hx nx nx rfl]; rfl) (by rw [ord_eq hx hx nx nx rfl]; rfl) (by rw [ord_eq bv hx (bm nx).1 nx (bm nx).2]; rfl) zz (by rw [ord_eq hy hy ny ny rfl]; rfl) (by rw [ord_eq hy hy ny ny rfl]; rfl) (by rw [ord_lt hx hy nx ny l]; rfl) (by rw [ord_lt hx hy nx ny l]; rfl) (by rw [ord_lt hx hy nx ny l]; rfl)
          · rw [cmpV_eq l] at hC1; rw [cmpV_eq l.symm] at hC2
            exact line_omeqok x y k v _ (key x) w f1 f2 hK1 hA1 hA2 hK2 hC1 hC2 (by rw [ord_eq hx hx nx nx rfl]; rfl) (by rw [ord_eq hx hx nx nx rfl]; rfl) (by rw [ord_eq bv hx (bm nx).1 nx (bm nx).2]; rfl) zz (by rw [ord_eq hy hy ny ny rfl]; rfl) (by rw [ord_eq hy hy ny ny rfl]; rfl) (by rw [ord_eq hx hy nx ny l]; rfl) (by rw [ord_eq hx hy nx ny l]; rfl) (by rw [ord_eq hx hy nx ny l]; rfl)
          · rw [cmpV_gt l] at hC1; rw [cmpV_lt l] at hC2
            exact line_omgtok x y k v _ (key x) w f1 f2 hK1 hA1 hA2 hK2 hC1 hC2 (by rw [ord_eq hx hx nx nx rfl]; rfl) (by rw [ord_eq hx hx nx nx rfl]; rfl) (by rw [ord_eq bv hx (bm nx).1 nx (bm nx).2]; rfl) zz (by rw [ord_eq hy hy ny ny rfl]; rfl) (by rw [ord_eq hy hy ny ny rfl]; rfl) (by rw [ord_gt hx hy nx ny l]; rfl) (by rw [ord_gt hx hy nx ny l]; rfl) (by rw [ord_gt hx hy nx ny l]; rfl)
  · rw [(at_far 0 (by omega)).2] at hA2
    by_cases nx : isNaN x
    · have kx := nan_key.1 nx
      by_cases ny : isNaN y
      · have l : key x = key y := by rw [kx, nan_key.1 ny]
        rw [cmpV_eq l] at hC1; rw [cmpV_eq l.symm] at hC2
        exact line_nneqno x y k v _ (key x) w f1 f2 hK1 hA1 hA2 hC1 hC2 (by rw [ord_nan (.inl nx)]; rfl) (by rw [ord_nan (.inl nx)]; rfl) (by rw [ord_nan (.inl (bn nx))]; rfl) (by rw [ord_nan (.inl (bn nx))]; rfl) (by rw [ord_nan (.inl ny)]; rfl) (by rw [ord_nan (.inl ny)]; rfl)
      · have l : key y < key x := by have := mt nan_key.2 ny; omega
        rw [cmpV_gt l] at hC1; rw [cmpV_lt l] at hC2
        exact line_nmgtno x y k v _ (key x) w f1 f2 hK1 hA1 hA2 hC1 hC2 (by rw [ord_nan (.inl nx)]; rfl) (by rw [ord_nan (.inl nx)]; rfl) (by rw [ord_nan (.inl (bn nx))]; rfl) (by rw [ord_nan (.inl (bn nx))]; rfl) (by rw [ord_eq hy hy ny ny rfl]; rfl) (by rw [ord_eq hy hy ny ny rfl]; rfl)
    · have kx := mt nan_key.2 nx
      have nv := (bm nx).1
      by_cases z : key v = 9218868437227405312
      · have zz : (FloatKind.f64.format.order v 0 == some .eq) = true := by rw [ord_eq bv (by omega) nv n0 (z.trans (by decide))]; rfl
        have v0 := bz nv z
        rw [show decide (9223372036854775808 ≤ v) = false by rw [v0]; decide] at hS
        by_cases ny : isNaN y
        · have l : key x < key y := by have := nan_key.1 ny; omega
          rw [cmpV_lt l] at hC1; rw [cmpV_gt l] at hC2
          exact line_znltno x y k v _ (key x) w f1 f2 hK1 hA1 hS hA2 hC1 hC2 (by rw [ord_eq hx hx nx nx rfl]; rfl) (by rw [ord_eq hx hx nx nx rfl]; rfl) (by rw [ord_eq bv hx (bm nx).1 nx (bm nx).2]; rfl) zz (by rw [ord_nan (.inl ny)]; rfl) (by rw [ord_nan (.inl ny)]; rfl)
        · rcases Nat.lt_trichotomy (key x) (key y) with l | l | l
          · rw [cmpV_lt l] at hC1; rw [cmpV_gt l] at hC2
            exact line_zmltno x y k v _ (key x) w f1 f2 hK1 hA1 hS hA2 hC1 hC2 (by rw [ord_eq hx hx nx nx rfl]; rfl) (by rw [ord_eq hx hx nx nx rfl]; rfl) (by rw [ord_eq bv hx (bm nx).1 nx (bm nx).2]; rfl) zz (by rw [ord_eq hy hy ny ny rfl]; rfl) (by rw [ord_eq hy hy ny ny rfl]; rfl) (by rw [ord_lt hx hy nx ny l]; rfl) (by rw [ord_lt hx hy nx ny l]; rfl) (by rw [ord_lt hx hy nx ny l]; rfl)
          · rw [cmpV_eq l] at hC1; rw [cmpV_eq l.symm] at hC2
            exact line_zmeqno x y k v _ (key x) w f1 f2 hK1 hA1 hS hA2 hC1 hC2 (by rw [ord_eq hx hx nx nx rfl]; rfl) (by rw [ord_eq hx hx nx nx rfl]; rfl) (by rw [ord_eq bv hx (bm nx).1 nx (bm nx).2]; rfl) zz (by rw [ord_eq hy hy ny ny rfl]; rfl) (by rw [ord_eq hy hy ny ny rfl]; rfl) (by rw [ord_eq hx hy nx ny l]; rfl) (by rw [ord_eq hx hy nx ny l]; rfl) (by rw [ord_eq hx hy nx ny l]; rfl)
          · rw [cmpV_gt l] at hC1; rw [cmpV_lt l] at hC2
            exact line_zmgtno x y k v _ (key x) w f1 f2 hK1 hA1 hS hA2 hC1 hC2 (by rw [ord_eq hx hx nx nx rfl]; rfl) (by rw [ord_eq hx hx nx nx rfl]; rfl) (by rw [ord_eq bv hx (bm nx).1 nx (bm nx).2]; rfl) zz (by rw [ord_eq hy hy ny ny rfl]; rfl) (by rw [ord_eq hy hy ny ny rfl]; rfl) (by rw [ord_gt hx hy nx ny l]; rfl) (by rw [ord_gt hx hy nx ny l]; rfl) (by rw [ord_gt hx hy nx ny l]; rfl)
      · have zz : (FloatKind.f64.format.order v 0 == some .eq) = false := by
          rcases Nat.lt_trichotomy (key v) (key 0) with l | l | l
          · rw [ord_lt bv (by omega) nv n0 l]; rfl
          · exact absurd (l.trans (by decide)) z
          · rw [ord_gt bv (by omega) nv n0 l]; rfl
        by_cases ny : isNaN y
        · have l : key x < key y := by have := nan_key.1 ny; omega
          rw [cmpV_lt l] at hC1; rw [cmpV_gt l] at hC2
          exact line_onltno x y k v _ (key x) w f1 f2 hK1 hA1 hA2 hC1 hC2 (by rw [ord_eq hx hx nx nx rfl]; rfl) (by rw [ord_eq hx hx nx nx rfl]; rfl) (by rw [ord_eq bv hx (bm nx).1 nx (bm nx).2]; rfl) zz (by rw [ord_nan (.inl ny)]; rfl) (by rw [ord_nan (.inl ny)]; rfl)
        · rcases Nat.lt_trichotomy (key x) (key y) with l | l | l
          · rw [cmpV_lt l] at hC1; rw [cmpV_gt l] at hC2
            exact line_omltno x y k v _ (key x) w f1 f2 hK1 hA1 hA2 hC1 hC2 (by rw [ord_eq hx hx nx nx rfl]; rfl) (by rw [ord_eq hx hx nx nx rfl]; rfl) (by rw [ord_eq bv hx (bm nx).1 nx (bm nx).2]; rfl) zz (by rw [ord_eq hy hy ny ny rfl]; rfl) (by rw [ord_eq hy hy ny ny rfl]; rfl) (by rw [ord_lt hx hy nx ny l]; rfl) (by rw [ord_lt hx hy nx ny l]; rfl) (by rw [ord_lt hx hy nx ny l]; rfl)
          · rw [cmpV_eq l] at hC1; rw [cmpV_eq l.symm] at hC2
            exact line_omeqno x y k v _ (key x) w f1 f2 hK1 hA1 hA2 hC1 hC2 (by rw [ord_eq hx hx nx nx rfl]; rfl) (by rw [ord_eq hx hx nx nx rfl]; rfl) (by rw [ord_eq bv hx (bm nx).1 nx (bm nx).2]; rfl) zz (by rw [ord_eq hy hy ny ny rfl]; rfl) (by rw [ord_eq hy hy ny ny rfl]; rfl) (by rw [ord_eq hx hy nx ny l]; rfl) (by rw [ord_eq hx hy nx ny l]; rfl) (by rw [ord_eq hx hy nx ny l]; rfl)
          · rw [cmpV_gt l] at hC1; rw [cmpV_lt l] at hC2
            exact line_omgtno x y k v _ (key x) w f1 f2 hK1 hA1 hA2 hC1 hC2 (by rw [ord_eq hx hx nx nx rfl]; rfl) (by rw [ord_eq hx hx nx nx rfl]; rfl) (by rw [ord_eq bv hx (bm nx).1 nx (bm nx).2]; rfl) zz (by rw [ord_eq hy hy ny ny rfl]; rfl) (by rw [ord_eq hy hy ny ny rfl]; rfl) (by rw [ord_gt hx hy nx ny l]; rfl) (by rw [ord_gt hx hy nx ny l]; rfl) (by rw [ord_gt hx hy nx ny l]; rfl)
end Go.Proofs.Ytjiflgdbgpegiaa
