import Derived.Test.YtmhgpgdekaeegaaDoorProg
import Derived.Test.YtmhgpgdekaeegaaDoorOA4
import Ieee.Arith
import Derived.WalkKit
import Derived.WalkSpells
import Derived.WalkLawsBesides
import Derived.Deep.Draws
import Derived.Deep.QuietTactic
import Derived.BigQuiet
import Derived.Laws.Externs
set_option linter.unusedVariables false
set_option linter.unusedSimpArgs false
namespace Go.Proofs.YtmhgpgdekaeegaaDoor
open Go.RowKit
def betN (a b : Nat) : Nat := if a = 18437736874454810625 ∨ b = 18437736874454810625 ∨ b < a then 0 else b - a + 1
def betE (a b : Nat) : Int := if a = 18437736874454810625 ∨ b = 18437736874454810625 then 60 else 0
def kyE (a b : Nat) : Int := if a = 18437736874454810625 ∨ b = 18437736874454810625 then 60 else 0
def kyN (a b c : Nat) : Nat := if a = 18437736874454810625 ∨ b = 18437736874454810625 then 0 else c
theorem keys_any (x y : Nat) (w : World) (hx : x < 18446744073709551616) (hy : y < 18446744073709551616) :
    Calls Tryd.prog 21 #[.float .f64 x, .float .f64 y] w fun e w' => e = .returned (.tuple #[.int .u64 (kyN (key x) (key y) (key x) : Nat), .int .u64 (kyN (key x) (key y) (key y) : Nat), .int .i64 (kyE (key x) (key y))]) ∧ w' = w := by
  have H1 := fun w => Key_any x w hx
  have H2 := fun w => Key_any y w hy
  by_cases e : key x = 18437736874454810625 ∨ key y = 18437736874454810625
  · have E1 : Hid (kyE (key x) (key y) = 60) := by show kyE _ _ = _; unfold kyE; rw [if_pos e]
    have E2 : ∀ c, Hid (kyN (key x) (key y) c = 0) := by intro c; show kyN _ _ _ = _; unfold kyN; rw [if_pos e]
    rw [E1.out, (E2 _).out, (E2 _).out]
    clear E1 E2
    by_cases e1 : key x = 18437736874454810625
    · have a1 : ((key x : Int) == 18437736874454810625) = true := by rw [beq_iff_eq]; omega
      clear e e1
      go_enter Tryd.func21, Tryd.ntmps21
      go_wp2_with (go_at_call 12; refine (Key_any _ _ (by assumption)).mono ?_; rintro e w' ⟨rfl, rfl⟩)
      go_ret3
      exact ⟨rfl, rfl⟩
    · have a1 : ((key x : Int) == 18437736874454810625) = false := by rw [beq_eq_false_iff_ne]; omega
      have a2 : ((key y : Int) == 18437736874454810625) = true := by rw [beq_iff_eq]; omega
      clear e e1
      go_enter Tryd.func21, Tryd.ntmps21
      go_wp2_with (go_at_call 12; refine (Key_any _ _ (by assumption)).mono ?_; rintro e w' ⟨rfl, rfl⟩)
      go_ret3
      exact ⟨rfl, rfl⟩
  · have E1 : Hid (kyE (key x) (key y) = 0) := by show kyE _ _ = _; unfold kyE; rw [if_neg e]
    have E2 : ∀ c, Hid (kyN (key x) (key y) c = c) := by intro c; show kyN _ _ _ = _; unfold kyN; rw [if_neg e]
    rw [E1.out, (E2 _).out, (E2 _).out]
    have a1 : ((key x : Int) == 18437736874454810625) = false := by rw [beq_eq_false_iff_ne]; omega
    have a2 : ((key y : Int) == 18437736874454810625) = false := by rw [beq_eq_false_iff_ne]; omega
    clear E1 E2 e
    go_enter Tryd.func21, Tryd.ntmps21
    go_wp2_with (go_at_call 12; refine (Key_any _ _ (by assumption)).mono ?_; rintro e w' ⟨rfl, rfl⟩)
    go_ret3
    exact ⟨rfl, rfl⟩
theorem wrap_bet (a b : Nat) (h : a ≤ b) (hb : b < 18446744073709551615) : IntKind.u64.wrap (IntKind.u64.wrap ((b : Int) - (a : Int)) + 1) = ((b - a + 1 : Nat) : Int) := by
  rw [IntKind.wrap_u64, IntKind.wrap_u64]; omega
theorem Between_any (x y : Nat) (w : World) (hx : x < 18446744073709551616) (hy : y < 18446744073709551616) :
    Calls Tryd.prog 11 #[.float .f64 x, .float .f64 y] w fun e w' => e = .returned (.tuple #[.int .u64 (betN (key x) (key y) : Nat), .int .i64 (betE (key x) (key y))]) ∧ w' = w := by
  have H := fun w => keys_any x y w hx hy
  have l2 := key_le y
  generalize key x = a at *
  generalize key y = b at *
  by_cases e : a = 18437736874454810625 ∨ b = 18437736874454810625
  · have E1 : Hid (betE a b = 60) := by show betE _ _ = _; unfold betE; rw [if_pos e]
    have E2 : Hid (betN a b = 0) := by show betN _ _ = _; unfold betN; rw [if_pos (by omega)]
    have E3 : kyE a b = 60 := by unfold kyE; rw [if_pos e]
    rw [E1.out, E2.out]; rw [E3] at H
    clear E1 E2 E3 e l2
    go_enter Tryd.func11, Tryd.ntmps11
    go_wp2_with (go_at_call 21; refine (H _).mono ?_; rintro e w' ⟨rfl, rfl⟩)
    go_ret2
    exact ⟨rfl, rfl⟩
  · have E3 : kyE a b = 0 := by unfold kyE; rw [if_neg e]
    have E4 : ∀ c, kyN a b c = c := by intro c; unfold kyN; rw [if_neg e]
    rw [E3, E4, E4] at H
    clear E3 E4
    have E1 : Hid (betE a b = 0) := by show betE _ _ = _; unfold betE; rw [if_neg e]
    by_cases e2 : b < a
    · have E2 : Hid (betN a b = 0) := by show betN _ _ = _; unfold betN; rw [if_pos (by omega)]
      rw [E1.out, E2.out]
      clear E1 E2 e l2
      go_enter Tryd.func11, Tryd.ntmps11
      go_wp2_with (go_at_call 21; refine (H _).mono ?_; rintro e w' ⟨rfl, rfl⟩)
      go_ret2
      exact ⟨rfl, rfl⟩
    · have E2 : Hid (betN a b = b - a + 1) := by show betN _ _ = _; unfold betN; rw [if_neg (by omega)]
      have hw := wrap_bet a b (by omega) (by omega)
      rw [E1.out, E2.out]
      generalize b - a + 1 = k1 at hw ⊢
      clear E1 E2 e l2
      go_enter Tryd.func11, Tryd.ntmps11
      go_wp2_with (go_at_call 21; refine (H _).mono ?_; rintro e w' ⟨rfl, rfl⟩)
      go_ret2
      exact ⟨rfl, rfl⟩
end Go.Proofs.YtmhgpgdekaeegaaDoor
