import Derived.Test.YtieheijcfiijmaaDoorProg
import Derived.Test.YtieheijcfiijmaaDoorZX0
import Derived.Deep.RegionLaw
import Derived.Shelf.Abstract
import Derived.Below
import Derived.WalkKit
import Derived.WalkSpells
import Derived.WalkLawsBesides
import Derived.Deep.Draws
import Derived.Deep.QuietTactic
import Derived.BigQuiet
import Derived.Laws.Externs
import Derived.Laws.CopyOwn
import Derived.BigRegion
import Derived.Laws.BitsAll
set_option linter.unusedVariables false
set_option linter.unusedSimpArgs false
namespace Go.Proofs.YtieheijcfiijmaaDoor
open Go.RowKit Go.Shelf
/-- A lane of eight numbers, by their bits. -/
abbrev LV (X : Nat → Nat) : Value := .agg #[.float .f64 (X 0), .float .f64 (X 1), .float .f64 (X 2), .float .f64 (X 3), .float .f64 (X 4), .float .f64 (X 5), .float .f64 (X 6), .float .f64 (X 7)]
/-- The bits below k of what something says of places. -/
def bt (f : Nat → Bool) : Nat → Nat
  | 0 => 0
  | k + 1 => if f k then bt f k ||| 2 ^ k else bt f k
theorem bt_test (f : Nat → Bool) : ∀ k i, (bt f k).testBit i = (decide (i < k) && f i)
  | 0, i => by simp [bt]
  | k + 1, i => by
    have ih := bt_test f k i
    unfold bt
    by_cases h : f k = true
    · rw [if_pos h, Nat.testBit_or, ih, Nat.testBit_two_pow]
      by_cases e : k = i
      · subst e; simp [h]
      · have : (i < k + 1) = (i < k) := by apply propext; omega
        simp [e, this]
    · rw [if_neg h, ih]
      by_cases e : k = i
      · subst e; simp [h]
      · have : (i < k + 1) = (i < k) := by apply propext; omega
        simp [this]
theorem bt_lt (f : Nat → Bool) (k : Nat) : bt f k < 2 ^ k :=
  Nat.lt_pow_two_of_testBit _ fun i hi => by rw [bt_test]; simp; omega
theorem bt_lt8 (f : Nat → Bool) {k : Nat} (hk : k ≤ 8) : bt f k < 256 := Nat.lt_of_lt_of_le (bt_lt f k) (Nat.pow_le_pow_right (n := 2) (by omega) hk)
/-- A byte is told by its bits. -/
theorem byte_ext {a b : Nat} (ha : a < 256) (hb : b < 256) (h : ∀ i, i < 8 → a.testBit i = b.testBit i) : a = b := by
  apply Nat.eq_of_testBit_eq
  intro i
  rcases Nat.lt_or_ge i 8 with h8 | h8
  · exact h i h8
  · rw [Nat.testBit_lt_two_pow (Nat.lt_of_lt_of_le ha (Nat.pow_le_pow_right (n := 2) (by omega) h8)), Nat.testBit_lt_two_pow (Nat.lt_of_lt_of_le hb (Nat.pow_le_pow_right (n := 2) (by omega) h8))]
theorem bt_congr {f g : Nat → Bool} {k : Nat} (h : ∀ i, i < k → f i = g i) : bt f k = bt g k := by
  apply Nat.eq_of_testBit_eq
  intro i
  rw [bt_test, bt_test]
  by_cases e : i < k
  · rw [h i e]
  · simp [e]
theorem andn_test (a b i : Nat) (hb : b < 256) (hi : i < 8) : (a &&& (255 - b)).testBit i = (a.testBit i && !b.testBit i) := by
  rw [Nat.testBit_and]
  have := Nat.testBit_two_pow_sub_succ (x := b) (n := 8) hb i
  rw [show (2 : Nat) ^ 8 - (b + 1) = 255 - b by omega] at this
  rw [this]; simp [hi]
theorem bt_andn (f g : Nat → Bool) : bt f 8 &&& (255 - bt g 8) = bt (fun i => f i && !g i) 8 := by
  refine byte_ext (Nat.lt_of_le_of_lt (Nat.and_le_left) (bt_lt8 f (Nat.le_refl _))) (bt_lt8 _ (Nat.le_refl _)) ?_
  intro i hi
  rw [andn_test _ _ _ (bt_lt8 g (Nat.le_refl _)) hi, bt_test, bt_test, bt_test]
  simp [hi]
theorem bt_not (f : Nat → Bool) : 255 - bt f 8 = bt (fun i => !f i) 8 := by
  have := bt_andn (fun _ => true) f
  rw [show bt (fun _ => true) 8 = 255 from rfl] at this
  simp only [Bool.true_and] at this
  rw [← this]
  refine byte_ext (by omega) (Nat.lt_of_le_of_lt (Nat.and_le_left) (by omega)) ?_
  intro i hi
  rw [Nat.testBit_and]
  have : (255 : Nat).testBit i = true := by
    have : i = 0 ∨ i = 1 ∨ i = 2 ∨ i = 3 ∨ i = 4 ∨ i = 5 ∨ i = 6 ∨ i = 7 := by omega
    rcases this with rfl | rfl | rfl | rfl | rfl | rfl | rfl | rfl <;> decide
  rw [this]; simp
end Go.Proofs.YtieheijcfiijmaaDoor
