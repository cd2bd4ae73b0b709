import Ieee.Arith
set_option linter.unusedVariables false
set_option linter.unusedSimpArgs false
namespace Go.Proofs.Ytaogjiffnebnkaa
/-- How far a rung lies above nought, in units of the least number. -/
def mg (r : Nat) : Nat := (if r < 4503599627370496 then r else 4503599627370496 + r % 4503599627370496) * 2 ^ (r / 4503599627370496 - 1)
/-- A word's sign and amount. -/
def negB (x : Nat) : Bool := x / 9223372036854775808 % 2 == 1
def sv (x : Nat) : Int := if negB x then -(mg (x % 9223372036854775808) : Int) else (mg (x % 9223372036854775808) : Int)
@[reducible] def isNaN (x : Nat) : Prop := 9218868437227405312 < x % 9223372036854775808
theorem read_eq (x : Nat) : Ieee.double.read x = if x % 9223372036854775808 < 9218868437227405312 then .number (negB x) (if x % 9223372036854775808 < 4503599627370496 then x % 9223372036854775808 else 4503599627370496 + x % 9223372036854775808 % 4503599627370496) (-1074 + ((x % 9223372036854775808 / 4503599627370496 - 1 : Nat) : Int))
    else if x % 9223372036854775808 = 9218868437227405312 then .infinity (negB x) else .nan (negB x) (x % 9223372036854775808 - 9218868437227405312) := by
  have e1 : Ieee.double.signWeight = 9223372036854775808 := by decide
  have e2 : Ieee.double.binade = 4503599627370496 := by decide
  have e3 : Ieee.double.infRung = 9218868437227405312 := by decide
  have e4 : Ieee.double.leastPlace = -1074 := by decide
  unfold Ieee.Format.read
  simp only [e1, e2, e3, e4]
  change (if _ then Ieee.Datum.number (negB x) _ _ else _) = _
  by_cases h1 : x % 9223372036854775808 < 4503599627370496
  · rw [if_pos h1, if_pos (by omega), if_pos h1, Nat.div_eq_of_lt h1]; rfl
  · rw [if_neg h1]
    by_cases h2 : x % 9223372036854775808 < 9218868437227405312
    · rw [if_pos h2, if_pos h2, if_neg h1]; rfl
    · rw [if_neg h2, if_neg h2]; rfl
end Go.Proofs.Ytaogjiffnebnkaa
