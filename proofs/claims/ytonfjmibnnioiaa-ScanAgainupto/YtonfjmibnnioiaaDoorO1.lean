import Derived.Test.YtonfjmibnnioiaaDoorT1
import Derived.Test.YtonfjmibnnioiaaDoorCards
import Derived.Test.YtonfjmibnnioiaaDoorTie
import Derived.Test.YtonfjmibnnioiaaDoorRows
import Derived.Test.YtonfjmibnnioiaaDoorChecked
import Derived.ProofKit
import Derived.OpenShut
import Derived.SizedLaws
import Derived.Deep.DeepHandedRow
import Derived.Lib.LaidTab
import Derived.Deep.Slices
import Derived.Laws.Cover2
set_option linter.unusedVariables false
set_option linter.unusedSimpArgs false
namespace Go.Proofs.YtonfjmibnnioiaaDoor
open Go.ChangeShapes Go.WideShapes Go.ChangeAt Go.RowKit
theorem own : ownKnob Tryd.prog.godebug = none := by kernel_rfl
theorem laidOut : laidOutB Tryd.prog = true := by kernel_rfl
theorem gtab : Tryd.prog.globalNamed "thicket/scan.kinds" = some 0 := by kernel_rfl
theorem ltab : (Rows.laid_thicket_scan_kinds : DataW Unit) = Lib.tabData .u8 (kdL.map fun n : Nat => (n : Int)) := by kernel_rfl
/-- The program's table, from what the row says of it. -/
theorem tab_of {W : World} {L : List (String × DataW Unit)} (h : laidMet Tryd.prog (("thicket/scan.kinds", Rows.laid_thicket_scan_kinds) :: L) W) : Kt W := by
  rw [ltab] at h
  have h1 := Lib.tabIs_of_head (P := Tryd.prog) (t := 75) (e := 50) (n := 128) gtab (by kernel_rfl) Tryd.underlying75 Tryd.underlying50 (by kernel_rfl) (by kernel_rfl) h
  intro j hj
  have hl : j < kdL.length := hj
  have := h1.cell gtab j (by simpa using hl)
  rw [this]
  simp [List.getD, hl, kdN]
/-- A world in which the table holds what the program's text lays. -/
def lay0 (W : World) : World :=
  { W with heap := W.heap.modify 0 fun o => match o with
      | .cells _ t frozen => .cells (kdL.map (fun n : Nat => Value.int .u8 (n : Int))).toArray t frozen
      | o => o }
theorem bulk_of {H : Type} {l : List (DataW H)} (h : Rows.uptoSmall H l = true) : Rows.uptoBulkAll l ≤ 1048576 := of_decide_eq_true h
/-- A text as its bytes. -/
theorem ba_list (s : ByteArray) : (⟨s.data.toList.toArray⟩ : ByteArray) = s := by simp
end Go.Proofs.YtonfjmibnnioiaaDoor
