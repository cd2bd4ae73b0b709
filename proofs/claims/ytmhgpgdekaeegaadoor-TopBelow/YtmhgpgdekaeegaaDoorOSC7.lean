import Derived.Test.YtmhgpgdekaeegaaDoorProg
import Derived.Test.YtmhgpgdekaeegaaDoorOSC5
import Ieee.Arith
import Derived.WalkKit
import Derived.WalkSpells
import Derived.WalkLawsBesides
import Derived.Deep.Draws
import Derived.Deep.QuietTactic
import Derived.BigQuiet
import Derived.Laws.Externs
import Derived.RegionTactic
import Derived.Laws.Rows
import Derived.Laws.CopyOwn
import Derived.Deep.RegionLaw
import Derived.Shelf.Abstract
import Derived.Below
import Derived.BigRegion
set_option linter.unusedVariables false
set_option linter.unusedSimpArgs false
namespace Go.Proofs.YtmhgpgdekaeegaaDoor
open Go.RowKit Go.Shelf
/-- Bits as they lie in a row of one's own. -/
def ArC (w : World) (g cap : Nat) (l : List Nat) : Prop := ∃ cur : Array Value, w.heap[g]? = some (.cells cur 33 (0, 0)) ∧ cur.size = cap ∧ cur.toList.take l.length = UU l
theorem ArC.cell {w : World} {g cap : Nat} {l : List Nat} (h : ArC w g cap l) {j : Nat} (hj : j < l.length) : w.cell? ⟨g, j, none⟩ = some (.int .u64 ((l.getD j 0 : Nat) : Int)) := by
  obtain ⟨cur, h1, -, h2⟩ := h
  have e : cur.toList[j]? = (UU l)[j]? := by rw [← h2, List.getElem?_take, if_pos hj]
  rw [cell_of_row w g j cur 33 (0, 0) h1]
  have : cur[j]? = cur.toList[j]? := by simp
  rw [this, e]
  simp [UU, List.getD, hj]
end Go.Proofs.YtmhgpgdekaeegaaDoor
