import Derived.Test.YtpogipmamciciaaDoorN1
import Derived.Test.YtpogipmamciciaaDoorCards
import Derived.Test.YtpogipmamciciaaDoorTie
import Derived.Test.YtpogipmamciciaaDoorRows
import Derived.Test.YtpogipmamciciaaDoorChecked
import Derived.ProofKit
import Derived.OpenShut
import Derived.SizedLaws
import Derived.Deep.DeepHandedRow
import Derived.Lib.LaidTab
import Derived.Deep.Slices
import Derived.Laws.Cover2
set_option linter.unusedVariables false
set_option linter.unusedSimpArgs false
namespace Go.Proofs.YtpogipmamciciaaDoor
open Go.ChangeShapes Go.WideShapes Go.ChangeAt Go.RowKit
theorem own : ownKnob Tryd.prog.godebug = none := by kernel_rfl
theorem gtab : Tryd.prog.globalNamed "thicket/scan.kinds" = some 0 := by kernel_rfl
theorem ltab : (Rows.laid_thicket_scan_kinds : DataW Unit) = Lib.tabData .u8 (kdL.map fun n : Nat => (n : Int)) := by kernel_rfl
/-- The program's table, from what the row says of it. -/
theorem tab_of {W : World} (h : laidMet Tryd.prog [("thicket/scan.kinds", Rows.laid_thicket_scan_kinds)] W) : Kt W := by
  rw [ltab] at h
  have h1 := Lib.tabIs_of_head (P := Tryd.prog) (t := 85) (e := 77) (n := 128) gtab (by kernel_rfl) Tryd.underlying85 Tryd.underlying77 (by kernel_rfl) (by kernel_rfl) h
  intro j hj
  have hl : j < kdL.length := hj
  have := h1.cell gtab j (by simpa using hl)
  rw [this]
  simp [List.getD, hl, kdN]
/-- A world in which the table holds what the program's text lays. -/
def lay0 (W : World) : World :=
  { W with heap := W.heap.modify 0 fun o => match o with
      | .cells _ t frozen => .cells (kdL.map (fun n : Nat => Value.int .u8 (n : Int))).toArray t frozen
      | o => o }
end Go.Proofs.YtpogipmamciciaaDoor
