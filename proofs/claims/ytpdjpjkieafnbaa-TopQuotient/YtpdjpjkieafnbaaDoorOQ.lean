import Derived.Test.YtpdjpjkieafnbaaDoorTQ5
import Derived.Test.YtpdjpjkieafnbaaDoorCards
import Derived.Test.YtpdjpjkieafnbaaDoorTie
import Derived.Test.YtpdjpjkieafnbaaDoorRows
import Derived.Test.YtpdjpjkieafnbaaDoorChecked
import Derived.ProofKit
import Derived.OpenShut
import Derived.SizedLaws
import Derived.Deep.DeepHandedRow
import Derived.Lib.LaidTab
set_option linter.unusedVariables false
set_option linter.unusedSimpArgs false
namespace Go.Proofs.YtpdjpjkieafnbaaDoor.Li
open Go.RowKit Lb Nr
/-- A decimal is read as the number that is nearest to the quotient that its digits say. -/
theorem law_quot (l : List UInt8) (bh pw : Int) (w : World) (hl : l.length ≤ 140737488355328) :
    Calls Tryd.prog 3 #[.string ⟨l.toArray⟩, .int .i64 bh, .int .i64 pw] w fun e w' => e = .returned (.bool true) ∧ Keep w w' := by
  by_cases h0 : l = []
  · subst h0
    exact quot_bad [] bh pw w 0 (fun wx => Read_none8 wx) (.inr rfl)
  rcases kinds_of l with h | ⟨p, h1, h2, h3⟩
  · exact quot_ok l bh pw w h h0 hl
  · exact quot_bad l bh pw w p (fun wx => Read_bad8 l p wx h1 h2 h3 hl) (.inl h1)
end Go.Proofs.YtpdjpjkieafnbaaDoor.Li
set_option linter.unusedVariables false
set_option linter.unusedSimpArgs false
namespace Go.Proofs.YtpdjpjkieafnbaaDoor
open Go.ChangeShapes Go.WideShapes Go.ChangeAt Go.RowKit
theorem own : ownKnob Tryd.prog.godebug = none := by kernel_rfl
theorem laidOut : laidOutB Tryd.prog = true := by kernel_rfl
/-- A world in which the two tables hold what the texts lay. -/
def lay0 (W : World) : World :=
  { W with heap := (W.heap.modify 1 fun o => match o with
      | .cells _ t frozen => .cells (Go.Pinned.utf8FirstZ.map (fun n : Nat => Value.int .u8 (n : Int))).toArray t frozen
      | o => o).modify 2 fun o => match o with
      | .cells _ t frozen => .cells #[.int .u8 128, .int .u8 191, .int .u8 160, .int .u8 191, .int .u8 128, .int .u8 159, .int .u8 144, .int .u8 191, .int .u8 128, .int .u8 143, .int .u8 0, .int .u8 0, .int .u8 0, .int .u8 0, .int .u8 0, .int .u8 0, .int .u8 0, .int .u8 0, .int .u8 0, .int .u8 0, .int .u8 0, .int .u8 0, .int .u8 0, .int .u8 0, .int .u8 0, .int .u8 0, .int .u8 0, .int .u8 0, .int .u8 0, .int .u8 0, .int .u8 0, .int .u8 0] t frozen
      | o => o }
/-- What the form's reach says of a text. -/
theorem reach_text {H : Type} {ts : List TypeId} {ds : List (DataW H)} (hsz : (DataW.weightsEach Tryd.prog ts ds).all (· ≤ reachBytes) = true) {j : Nat} {l : List UInt8} (ht : ts[j]? = some 9) (hd : ds[j]? = some (.lit (.string l))) : l.length ≤ 140737488351232 := by
  have := sized_string hsz ht hd
  simp only [reachBytes] at this
  omega
end Go.Proofs.YtpdjpjkieafnbaaDoor
