import Derived.Test.YtieheijcfiijmaaDoorCards
import Derived.Test.YtieheijcfiijmaaDoorTie
import Derived.Test.YtieheijcfiijmaaDoorRows
import Derived.Test.YtieheijcfiijmaaDoorChecked
import Derived.ProofKit
import Derived.OpenShut
import Derived.SizedLaws
import Derived.Deep.DeepHandedRow
import Derived.Lib.LaidTab
import Derived.Shelf.Spec.TrailingZeros
set_option linter.unusedVariables false
set_option linter.unusedSimpArgs false
namespace Go.Proofs.YtieheijcfiijmaaDoor
open Go.ChangeShapes Go.WideShapes Go.ChangeAt Go.RowKit
theorem own : ownKnob Tryd.prog.godebug = none := by kernel_rfl
theorem laidOut : laidOutB Tryd.prog = true := by kernel_rfl
/-- A world in which the library's table holds what the library's text lays. -/
def lay0 (W : World) : World :=
  { W with heap := W.heap.modify 1 fun o => match o with
      | .cells _ t frozen => .cells (Lib.deBruijn64tab.map (fun n : Nat => Value.int .u8 (n : Int))).toArray t frozen
      | o => o }
end Go.Proofs.YtieheijcfiijmaaDoor
