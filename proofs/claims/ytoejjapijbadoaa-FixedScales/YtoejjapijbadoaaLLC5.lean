import Derived.Test.YtoejjapijbadoaaProg
import Derived.Test.YtoejjapijbadoaaLLC4
import Derived.WalkKit
import Derived.WalkSpells
import Derived.WalkLawsBesides
import Derived.Laws.CopyOwn
import Derived.Deep.Draws
import Derived.Deep.QuietTactic
import Derived.BigQuiet
import Derived.Laws.MathBits
set_option linter.unusedVariables false
set_option linter.unusedSimpArgs false
namespace Go.Proofs.Ytoejjapijbadoaa
open Go.RowKit Lb
def lenB (l : List Nat) : Nat := if nl l = 0 then 0 else 32 * (nl l - 1) + bitLen (l.getD (nl l - 1) 0)
theorem bitLen_half (x : Nat) (h : 0 < x) : bitLen x = bitLen (x / 2) + 1 := by
  by_cases h1 : x / 2 = 0
  · have : x = 1 := by omega
    subst this; decide
  · have := bitLen_shift x 1 (by simpa using h1)
    simp at this; omega
theorem bitLen_le (x : Nat) (h : x < 4294967296) : bitLen x ≤ 32 := by
  unfold bitLen
  split
  · omega
  · rename_i h0
    have := (Nat.log2_lt h0).2 (show x < 2 ^ 32 from h)
    omega
end Go.Proofs.Ytoejjapijbadoaa
