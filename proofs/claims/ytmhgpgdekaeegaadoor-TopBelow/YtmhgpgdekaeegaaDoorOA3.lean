import Derived.Test.YtmhgpgdekaeegaaDoorProg
import Derived.Test.YtmhgpgdekaeegaaDoorOA2
import Ieee.Arith
import Derived.WalkKit
import Derived.WalkSpells
import Derived.WalkLawsBesides
import Derived.Deep.Draws
import Derived.Deep.QuietTactic
import Derived.BigQuiet
import Derived.Laws.Externs
set_option linter.unusedVariables false
set_option linter.unusedSimpArgs false
namespace Go.Proofs.YtmhgpgdekaeegaaDoor
open Go.RowKit
/-- The bits are the same, or both are NaNs'. -/
def Alk (v x : Nat) : Prop := x < 18446744073709551616 ∧ (v = x ∧ ¬ isNaN x ∨ isNaN v ∧ isNaN x)
end Go.Proofs.YtmhgpgdekaeegaaDoor
