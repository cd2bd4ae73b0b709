import Derived.Test.YtaogjiffnebnkaaP4
import Derived.Test.YtaogjiffnebnkaaProg
import Derived.Test.YtaogjiffnebnkaaJYR1
import Derived.Test.YtaogjiffnebnkaaKYT5
import Derived.Test.YtaogjiffnebnkaaKYT6
import Derived.Test.YtaogjiffnebnkaaKYU1
import Derived.Test.YtaogjiffnebnkaaKYMM
import Derived.Test.YtaogjiffnebnkaaKM1
import Derived.Test.YtaogjiffnebnkaaKM2
import Derived.Test.YtaogjiffnebnkaaKM3
import Derived.WalkKit
import Derived.WalkSpells
import Derived.WalkLawsBesides
import Derived.Deep.Draws
import Derived.Deep.QuietTactic
import Derived.BigQuiet
import Derived.Laws.Externs
import Derived.Laws.CopyOwn
import Derived.RangeFuncBox
import Derived.RangeFuncLeaves
import Derived.RangeFuncCalls
import Derived.RangeFuncRecord
import Derived.Below
import Derived.Shelf.Abstract
import Derived.OwnWalkIn
import Derived.TacticsInMore
import Derived.LoopNIn
import Derived.LoopIn
import Derived.Sort.LoopGhostIn
import Derived.Deep.RegionLaw
import Derived.Deep.RegionWith
import Derived.Deep.RegionHeld3
import Derived.Stop.RegionWithIn
set_option linter.unusedVariables false
set_option linter.unusedSimpArgs false
namespace Go.Proofs.Ytaogjiffnebnkaa.Mk
open Go.RowKit Go.Shelf
attribute [local go_sem] Oper.semAt_some
attribute [local go_sem] run_store_float
/-- What Order holds between two rounds. -/
structure OIt (L : List Nd) (w : World) (a : Option Addr) (cap : Nat) (out0 : Int) (f : Nat) (vo vt : Value) (wr : World) (outl S : List Nat) : Prop where
  ownT : OwnI wr vt S.reverse
  ownO : OwnI wr vo outl
  blT : ∀ b, vt.ownBlock = some b → w.heap.size < b
  blO : ∀ b, vo.ownBlock = some b → w.heap.size < b
  ne : ∀ b, vo.ownBlock = some b → vt.ownBlock ≠ some b
  tb : wr.heap[w.heap.size]? = some (Obj.cells #[Value.int IntKind.i64 out0, Value.slice a L.length cap] 54 (0, 0))
  kp : Keep w wr
  way : Way (shp L) L.length outl S
  str : Str (shp L) L.length outl S
  eq : go (shp L) f outl S = ord (shp L) L.length
  fuel : 3 * (L.length - outl.length) + S.length ≤ f
  top : f ≤ 3 * L.length + 1
/-- What an append leaves as it was. -/
theorem grown_al {A B : World} {o : Obj} {r : Option Nat} (h : (A.alloc o).grownBy B r) : (∀ g, g < A.heap.size → r ≠ some g → B.heap[g]? = A.heap[g]?) ∧ A.heap.size < B.heap.size ∧ B.os = A.os ∧ B.tape = A.tape ∧ B.output = A.output := by
  have hb : Below A.heap.size A (A.alloc o) := (Below.refl _ A).alloc (Nat.le_refl _) o
  have hs := h.size
  rw [World.size_alloc] at hs
  refine ⟨fun g hg hne => ?_, by omega, h.os.trans hb.os, h.tape.trans hb.tape, h.output.trans hb.output⟩
  rw [h.block g (Nat.lt_of_lt_of_le hg hb.size) (fun e => hne e.symm), hb.block g hg]
end Go.Proofs.Ytaogjiffnebnkaa.Mk
