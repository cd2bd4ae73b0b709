import Derived.Test.YtoejjapijbadoaaProg
import Derived.Test.YtoejjapijbadoaaLLC2
import Derived.Test.YtoejjapijbadoaaLLC5
import Derived.Test.YtoejjapijbadoaaLLD5
import Derived.Test.YtoejjapijbadoaaLLC10
import Derived.Test.YtoejjapijbadoaaLLH2
import Derived.Test.YtoejjapijbadoaaLLMath
import Derived.Test.YtoejjapijbadoaaLLC12
import Derived.Test.YtoejjapijbadoaaLLC18
import Derived.WalkKit
import Derived.WalkSpells
import Derived.WalkLawsBesides
import Derived.Laws.CopyOwn
import Derived.Deep.Draws
import Derived.Deep.QuietTactic
import Derived.BigQuiet
import Derived.Laws.MathBits
import Derived.Laws.Externs
import Derived.Shelf.Small.Bits
import Derived.Laws.BytesArg
import Derived.Lib.OthersKept
import Derived.Deep.RegionWith
import Derived.WalkMore
import Derived.Deep.LoopGhost
import Derived.Deep.RegionHeld3
set_option linter.unusedVariables false
set_option linter.unusedSimpArgs false
namespace Go.Proofs.Ytoejjapijbadoaa
open Go.RowKit Lb
/-- A natural as a value, that can be read. -/
def Nv (w : World) (v : Value) (n : Nat) : Prop := ∃ a c l, v = .slice a l.length c ∧ l.length ≤ c ∧ Rd w a l ∧ Lim l ∧ Nrm l ∧ val l = n
theorem Nv.keep {w w' : World} {v : Value} {n : Nat} (h : Nv w v n) (k : Keep w w') : Nv w' v n := by
  obtain ⟨a, c, l, e, h1, h2, h3⟩ := h
  exact ⟨a, c, l, e, h1, h2.keep k, h3⟩
theorem len_of {l : List Nat} (hn : Nrm l) {k : Nat} (h : val l < 4294967296 ^ k) : l.length ≤ k := by
  by_cases e : l = []
  · subst e; simp
  · have h1 := val_ge hn e
    rcases Nat.lt_or_ge k l.length with h2 | h2
    · have h3 : 4294967296 ^ k ≤ 4294967296 ^ (l.length - 1) := Nat.pow_le_pow_right (by omega) (by omega)
      omega
    · exact h2
end Go.Proofs.Ytoejjapijbadoaa
