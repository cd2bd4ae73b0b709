import Derived.Test.YtmhgpgdekaeegaaDoorProg
import Derived.Test.YtmhgpgdekaeegaaDoorOSB2
import Ieee.Arith
import Derived.WalkKit
import Derived.WalkSpells
import Derived.WalkLawsBesides
import Derived.Deep.Draws
import Derived.Deep.QuietTactic
import Derived.BigQuiet
import Derived.Laws.Externs
import Derived.RegionTactic
import Derived.Laws.Rows
set_option linter.unusedVariables false
set_option linter.unusedSimpArgs false
namespace Go.Proofs.YtmhgpgdekaeegaaDoor
open Go.RowKit
/-- The key of a number, as a whole number. -/
def kI (x : Nat) : Int := ((key x : Nat) : Int)
def F64 (l : List Nat) : Prop := ∀ x ∈ l, x < 18446744073709551616
theorem F64.at {l : List Nat} (h : F64 l) (i : Nat) (hi : i < l.length) : l.getD i 0 < 18446744073709551616 := h _ (by simp [List.getD, hi])
/-- Whether one comes ahead of another, as the program asks it. -/
theorem cmpI_lt (x y : Nat) : decide (cmpV (key x) (key y) < 0) = decide (kI x < kI y) := by
  unfold cmpV kI
  by_cases h : key x < key y
  · rw [if_pos h]; simp; exact h
  · rw [if_neg h]
    have : ¬ ((key x : Nat) : Int) < ((key y : Nat) : Int) := by omega
    rw [decide_eq_false this]
    split <;> decide
end Go.Proofs.YtmhgpgdekaeegaaDoor
