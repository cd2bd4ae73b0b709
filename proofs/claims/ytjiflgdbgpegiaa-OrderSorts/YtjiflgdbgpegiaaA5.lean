import Derived.Test.YtjiflgdbgpegiaaA4
set_option linter.unusedVariables false
set_option linter.unusedSimpArgs false
namespace Go.Proofs.Ytjiflgdbgpegiaa
open Go.RowKit
/-- The number half way, and how many there are: of two keys. -/
def midK (a b : Nat) : Nat := a + (b - a) / 2
def midB (n a b : Nat) : Nat := if a = 18437736874454810625 ∨ b = 18437736874454810625 ∨ b < a then 0 else atB n (midK a b)
def midE (a b : Nat) : Int := if a = 18437736874454810625 ∨ b = 18437736874454810625 then 60 else if b < a then 2 else 0
def betN (a b : Nat) : Nat := if a = 18437736874454810625 ∨ b = 18437736874454810625 ∨ b < a then 0 else b - a + 1
def betE (a b : Nat) : Int := if a = 18437736874454810625 ∨ b = 18437736874454810625 then 60 else 0
def kyE (a b : Nat) : Int := if a = 18437736874454810625 ∨ b = 18437736874454810625 then 60 else 0
def kyN (a b c : Nat) : Nat := if a = 18437736874454810625 ∨ b = 18437736874454810625 then 0 else c
theorem keys_any (x y : Nat) (w : World) (hx : x < 18446744073709551616) (hy : y < 18446744073709551616) :
    Calls Try.prog 56 #[.float .f64 x, .float .f64 y] w fun e w' => e = .returned (.tuple #[.int .u64 (kyN (key x) (key y) (key x) : Nat), .int .u64 (kyN (key x) (key y) (key y) : Nat), .int .i64 (kyE (key x) (key y))]) ∧ w' = w := by
  have H1 := fun w => Key_any x w hx
  have H2 := fun w => Key_any y w hy
  by_cases e : key x = 18437736874454810625 ∨ key y = 18437736874454810625
  · have E1 : Hid (kyE (key x) (key y) = 60) := by show kyE _ _ = _; unfold kyE; rw [if_pos e]
    have E2 : ∀ c, Hid (kyN (key x) (key y) c = 0) := by intro c; show kyN _ _ _ = _; unfold kyN; rw [if_pos e]
    rw [E1.out, (E2 _).out, (E2 _).out]
    clear E1 E2
    by_cases e1 : key x = 18437736874454810625
    · have a1 : ((key x : Int) == 18437736874454810625) = true := by rw [beq_iff_eq]; omega
      clear e e1
      go_enter Try.func56, Try.ntmps56
      go_wp2_with (go_at_call 14; refine (Key_any _ _ (by assumption)).mono ?_; rintro e w' ⟨rfl, rfl⟩)
      go_ret3
      exact ⟨rfl, rfl⟩
    · have a1 : ((key x : Int) == 18437736874454810625) = false := by rw [beq_eq_false_iff_ne]; omega
      have a2 : ((key y : Int) == 18437736874454810625) = true := by rw [beq_iff_eq]; omega
      clear e e1
      go_enter Try.func56, Try.ntmps56
      go_wp2_with (go_at_call 14; refine (Key_any _ _ (by assumption)).mono ?_; rintro e w' ⟨rfl, rfl⟩)
      go_ret3
      exact ⟨rfl, rfl⟩
  · have E1 : Hid (kyE (key x) (key y) = 0) := by show kyE _ _ = _; unfold kyE; rw [if_neg e]
    have E2 : ∀ c, Hid (kyN (key x) (key y) c = c) := by intro c; show kyN _ _ _ = _; unfold kyN; rw [if_neg e]
    rw [E1.out, (E2 _).out, (E2 _).out]
    have a1 : ((key x : Int) == 18437736874454810625) = false := by rw [beq_eq_false_iff_ne]; omega
    have a2 : ((key y : Int) == 18437736874454810625) = false := by rw [beq_eq_false_iff_ne]; omega
    clear E1 E2 e
    go_enter Try.func56, Try.ntmps56
    go_wp2_with (go_at_call 14; refine (Key_any _ _ (by assumption)).mono ?_; rintro e w' ⟨rfl, rfl⟩)
    go_ret3
    exact ⟨rfl, rfl⟩
theorem wrap_mid (a b : Nat) (h : a ≤ b) (hb : b < 18446744073709551616) : IntKind.u64.wrap ((a : Int) + IntKind.u64.wrap ((IntKind.u64.wrap ((b : Int) - (a : Int))).tdiv 2)) = ((midK a b : Nat) : Int) := by
  have e : IntKind.u64.wrap ((b : Int) - (a : Int)) = ((b - a : Nat) : Int) := by rw [IntKind.wrap_u64]; omega
  rw [e, show ((b - a : Nat) : Int).tdiv 2 = (((b - a) / 2 : Nat) : Int) from rfl, IntKind.wrap_u64, IntKind.wrap_u64]
  unfold midK
  omega
theorem Middle_any (x y : Nat) (w : World) (hx : x < 18446744073709551616) (hy : y < 18446744073709551616) :
    Calls Try.prog 22 #[.float .f64 x, .float .f64 y] w fun e w' => e = .returned (.tuple #[.float .f64 (midB 9221120237041090561 (key x) (key y)), .int .i64 (midE (key x) (key y))]) ∧ w' = w := by
  have H := fun w => keys_any x y w hx hy
  have l2 := key_le y
  generalize key x = a at *
  generalize key y = b at *
  by_cases e : a = 18437736874454810625 ∨ b = 18437736874454810625
  · have E1 : Hid (midE a b = 60) := by show midE _ _ = _; unfold midE; rw [if_pos e]
    have E2 : Hid (midB 9221120237041090561 a b = 0) := by show midB _ _ _ = _; unfold midB; rw [if_pos (by omega)]
    have E3 : kyE a b = 60 := by unfold kyE; rw [if_pos e]
    rw [E1.out, E2.out]; rw [E3] at H
    clear E1 E2 E3 e l2
    go_enter Try.func22, Try.ntmps22
    go_wp2_with (go_at_call 56; refine (H _).mono ?_; rintro e w' ⟨rfl, rfl⟩)
    go_ret2
    exact ⟨rfl, rfl⟩
  · have E3 : kyE a b = 0 := by unfold kyE; rw [if_neg e]
    have E4 : ∀ c, kyN a b c = c := by intro c; unfold kyN; rw [if_neg e]
    rw [E3, E4, E4] at H
    clear E3 E4
    by_cases e2 : b < a
    · have E1 : Hid (midE a b = 2) := by show midE _ _ = _; unfold midE; rw [if_neg e, if_pos e2]
      have E2 : Hid (midB 9221120237041090561 a b = 0) := by show midB _ _ _ = _; unfold midB; rw [if_pos (by omega)]
      rw [E1.out, E2.out]
      clear E1 E2 e l2
      go_enter Try.func22, Try.ntmps22
      go_wp2_with (go_at_call 56; refine (H _).mono ?_; rintro e w' ⟨rfl, rfl⟩)
      go_ret2
      exact ⟨rfl, rfl⟩
    · have E2 : Hid (midB 9221120237041090561 a b = atB 9221120237041090561 (midK a b)) := by show midB _ _ _ = _; unfold midB; rw [if_neg (by omega)]
      have E1 : Hid (midE a b = atE (midK a b)) := by show midE _ _ = _; unfold midE atE midK; rw [if_neg e, if_neg e2, if_neg (by omega)]
      have hA := fun w => At_any (midK a b) w
      have hw := wrap_mid a b (by omega) (by omega)
      rw [E1.out, E2.out]
      generalize atB 9221120237041090561 (midK a b) = bb at hA ⊢
      generalize atE (midK a b) = ee at hA ⊢
      generalize midK a b = k1 at hA hw
      clear E1 E2 e l2
      go_enter Try.func22, Try.ntmps22
      go_wp2_with first
        | (go_at_call 56; refine (H _).mono ?_; rintro e w' ⟨rfl, rfl⟩)
        | (go_at_call 12; refine (hA _).mono ?_; rintro e w' ⟨rfl, rfl⟩)
      go_ret2
      exact ⟨rfl, rfl⟩
theorem wrap_bet (a b : Nat) (h : a ≤ b) (hb : b < 18446744073709551615) : IntKind.u64.wrap (IntKind.u64.wrap ((b : Int) - (a : Int)) + 1) = ((b - a + 1 : Nat) : Int) := by
  rw [IntKind.wrap_u64, IntKind.wrap_u64]; omega
theorem Between_any (x y : Nat) (w : World) (hx : x < 18446744073709551616) (hy : y < 18446744073709551616) :
    Calls Try.prog 24 #[.float .f64 x, .float .f64 y] w fun e w' => e = .returned (.tuple #[.int .u64 (betN (key x) (key y) : Nat), .int .i64 (betE (key x) (key y))]) ∧ w' = w := by
  have H := fun w => keys_any x y w hx hy
  have l2 := key_le y
  generalize key x = a at *
  generalize key y = b at *
  by_cases e : a = 18437736874454810625 ∨ b = 18437736874454810625
  · have E1 : Hid (betE a b = 60) := by show betE _ _ = _; unfold betE; rw [if_pos e]
    have E2 : Hid (betN a b = 0) := by show betN _ _ = _; unfold betN; rw [if_pos (by omega)]
    have E3 : kyE a b = 60 := by unfold kyE; rw [if_pos e]
    rw [E1.out, E2.out]; rw [E3] at H
    clear E1 E2 E3 e l2
    go_enter Try.func24, Try.ntmps24
    go_wp2_with (go_at_call 56; refine (H _).mono ?_; rintro e w' ⟨rfl, rfl⟩)
    go_ret2
    exact ⟨rfl, rfl⟩
  · have E3 : kyE a b = 0 := by unfold kyE; rw [if_neg e]
    have E4 : ∀ c, kyN a b c = c := by intro c; unfold kyN; rw [if_neg e]
    rw [E3, E4, E4] at H
    clear E3 E4
    have E1 : Hid (betE a b = 0) := by show betE _ _ = _; unfold betE; rw [if_neg e]
    by_cases e2 : b < a
    · have E2 : Hid (betN a b = 0) := by show betN _ _ = _; unfold betN; rw [if_pos (by omega)]
      rw [E1.out, E2.out]
      clear E1 E2 e l2
      go_enter Try.func24, Try.ntmps24
      go_wp2_with (go_at_call 56; refine (H _).mono ?_; rintro e w' ⟨rfl, rfl⟩)
      go_ret2
      exact ⟨rfl, rfl⟩
    · have E2 : Hid (betN a b = b - a + 1) := by show betN _ _ = _; unfold betN; rw [if_neg (by omega)]
      have hw := wrap_bet a b (by omega) (by omega)
      rw [E1.out, E2.out]
      generalize b - a + 1 = k1 at hw ⊢
      clear E1 E2 e l2
      go_enter Try.func24, Try.ntmps24
      go_wp2_with (go_at_call 56; refine (H _).mono ?_; rintro e w' ⟨rfl, rfl⟩)
      go_ret2
      exact ⟨rfl, rfl⟩
end Go.Proofs.Ytjiflgdbgpegiaa
