import Derived.Test.YtoejjapijbadoaaProg
import Derived.Test.YtoejjapijbadoaaLLD5
import Derived.Test.YtoejjapijbadoaaLLMath
import Derived.Test.YtoejjapijbadoaaLLC18
import Derived.WalkKit
import Derived.WalkSpells
import Derived.WalkLawsBesides
import Derived.Laws.CopyOwn
import Derived.Deep.Draws
import Derived.Deep.QuietTactic
import Derived.BigQuiet
import Derived.Laws.MathBits
import Derived.Shelf.Small.Bits
import Derived.Laws.BytesArg
import Derived.Lib.OthersKept
import Derived.Deep.RegionWith
set_option linter.unusedVariables false
set_option linter.unusedSimpArgs false
namespace Go.Proofs.Ytoejjapijbadoaa
open Go.RowKit Lb
/-- Three words in a block of their own. -/
def Tri (w : World) (g x y z : Nat) : Prop := w.heap[g]? = some (.cells #[.int .u64 (x : Nat), .int .u64 (y : Nat), .int .u64 (z : Nat)] 75 (0, 0))
/-- Steps of Euclid's in a block of their own. -/
def Stp (w : World) (g p q r s : Nat) (t : Bool) : Prop := w.heap[g]? = some (.cells #[.int .u64 (p : Nat), .int .u64 (q : Nat), .int .u64 (r : Nat), .int .u64 (s : Nat), .bool t] 65 (0, 0))
theorem Tri.keep {w w' : World} {g x y z : Nat} (h : Tri w g x y z) (k : Keep w w') : Tri w' g x y z := by
  unfold Tri; rw [k.block g (Array.getElem?_eq_some_iff.1 h).1]; exact h
theorem Tri.cells {w : World} {g x y z : Nat} (h : Tri w g x y z) : w.cell? ⟨g, 0, none⟩ = some (.int .u64 (x : Nat)) ∧ w.cell? ⟨g, 1, none⟩ = some (.int .u64 (y : Nat)) ∧ w.cell? ⟨g, 2, none⟩ = some (.int .u64 (z : Nat)) := by
  refine ⟨?_, ?_, ?_⟩ <;> rw [cell_of_row w g _ _ 75 (0, 0) h] <;> rfl
theorem Stp.keep {w w' : World} {g p q r s : Nat} {t : Bool} (h : Stp w g p q r s t) (k : Keep w w') : Stp w' g p q r s t := by
  unfold Stp; rw [k.block g (Array.getElem?_eq_some_iff.1 h).1]; exact h
theorem Stp.cells {w : World} {g p q r s : Nat} {t : Bool} (h : Stp w g p q r s t) : w.cell? ⟨g, 0, none⟩ = some (.int .u64 (p : Nat)) ∧ w.cell? ⟨g, 1, none⟩ = some (.int .u64 (q : Nat)) ∧ w.cell? ⟨g, 2, none⟩ = some (.int .u64 (r : Nat)) ∧ w.cell? ⟨g, 3, none⟩ = some (.int .u64 (s : Nat)) ∧ w.cell? ⟨g, 4, none⟩ = some (.bool t) := by
  refine ⟨?_, ?_, ?_, ?_, ?_⟩ <;> rw [cell_of_row w g _ _ 65 (0, 0) h] <;> rfl
end Go.Proofs.Ytoejjapijbadoaa
