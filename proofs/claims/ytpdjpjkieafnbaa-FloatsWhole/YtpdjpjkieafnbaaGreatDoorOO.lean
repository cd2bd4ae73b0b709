import Derived.Test.YtpdjpjkieafnbaaGreatDoorO5
import Derived.Test.YtpdjpjkieafnbaaGreatDoorCards
import Derived.Test.YtpdjpjkieafnbaaGreatDoorTie
import Derived.Test.YtpdjpjkieafnbaaGreatDoorRows
import Derived.Test.YtpdjpjkieafnbaaGreatDoorChecked
import Derived.ProofKit
import Derived.OpenShut
import Derived.SizedLaws
import Derived.Deep.DeepHandedRow
import Derived.Lib.LaidTab
import Derived.Lib.TrailingZeros
import Derived.Deep.Slices
import Derived.Laws.Cover2
set_option linter.unusedVariables false
set_option linter.unusedSimpArgs false
namespace Go.Proofs.YtpdjpjkieafnbaaGreatDoor
open Go.ChangeShapes Go.WideShapes Go.ChangeAt Go.RowKit
theorem own : ownKnob Tryz.prog.godebug = none := by kernel_rfl
theorem laidOut : laidOutB Tryz.prog = true := by kernel_rfl
/-- A world in which all five tables hold what the texts lay. -/
def lay5 (W : World) : World :=
  { W with heap := ((((W.heap.modify 2 fun o => match o with
      | .cells _ t frozen => .cells (Lib.pow10Tab.map (fun n : Int => Value.int .u64 n)).toArray t frozen
      | o => o).modify 6 fun o => match o with
      | .cells _ t frozen => .cells (Lib.deBruijn32tab.map (fun n : Nat => Value.int .u8 (n : Int))).toArray t frozen
      | o => o).modify 1 fun o => match o with
      | .cells _ t frozen => .cells (Lib.deBruijn64tab.map (fun n : Nat => Value.int .u8 (n : Int))).toArray t frozen
      | o => o).modify 4 fun o => match o with
      | .cells _ t frozen => .cells (Pinned.utf8FirstZ.map (fun n : Nat => Value.int .u8 (n : Int))).toArray t frozen
      | o => o).modify 5 fun o => match o with
      | .cells _ t frozen => .cells (([128, 191, 160, 191, 128, 159, 144, 191, 128, 143] ++ List.replicate 22 0).map (fun n : Nat => Value.int .u8 (n : Int))).toArray t frozen
      | o => o }
theorem u64_of {n : Int} (h : (Lit.int .u64 n).wf = true) : ∃ m : Nat, n = (m : Int) ∧ m < 18446744073709551616 := by
  simp only [Lit.wf, IntKind.min, IntKind.max, IntKind.signed, IntKind.bits, Bool.and_eq_true, decide_eq_true_eq] at h
  simp at h
  exact ⟨n.toNat, by omega, by omega⟩
end Go.Proofs.YtpdjpjkieafnbaaGreatDoor
