import Derived.Test.YtaogjiffnebnkaaP4
import Derived.Test.YtaogjiffnebnkaaProg
import Derived.Test.YtaogjiffnebnkaaJYT3
import Derived.Test.YtaogjiffnebnkaaKYT5
import Derived.Test.YtaogjiffnebnkaaKYT6
import Derived.Test.YtaogjiffnebnkaaKYU1
import Derived.Test.YtaogjiffnebnkaaKYMM
import Derived.Test.YtaogjiffnebnkaaKM1
import Derived.Test.YtaogjiffnebnkaaKM2
import Derived.Test.YtaogjiffnebnkaaKM3
import Derived.WalkKit
import Derived.WalkSpells
import Derived.WalkLawsBesides
import Derived.Deep.Draws
import Derived.Deep.QuietTactic
import Derived.BigQuiet
import Derived.Laws.Externs
import Derived.Laws.CopyOwn
import Derived.RangeFuncBox
import Derived.RangeFuncLeaves
import Derived.RangeFuncCalls
import Derived.RangeFuncRecord
import Derived.Below
import Derived.Shelf.Abstract
import Derived.OwnWalkIn
import Derived.TacticsInMore
import Derived.LoopNIn
import Derived.LoopIn
import Derived.Sort.LoopGhostIn
import Derived.Deep.RegionLaw
import Derived.Deep.RegionWith
import Derived.Deep.RegionHeld3
import Derived.Stop.RegionWithIn
set_option linter.unusedVariables false
set_option linter.unusedSimpArgs false
namespace Go.Proofs.Ytaogjiffnebnkaa.Mk
open Go.RowKit Go.Shelf
attribute [local go_sem] Oper.semAt_some
attribute [local go_sem] run_store_float
/-- The same tree, its sides exchanged. -/
def shpS (L : List Nd) : Sh := ⟨(shp L).K, (shp L).B, (shp L).A⟩
/-- What the reference's search holds between two rounds. -/
structure RIt (L : List Nd) (w : World) (gm : Nat) (a : Option Addr) (cap : Nat) (out0 : Int) (f : Nat) (vw : Value) (wr : World) (outl S : List Nat) : Prop where
  own : OwnI wr vw S.reverse
  blk : ∀ b, vw.ownBlock = some b → gm < b
  row : RowB wr gm (mets L.length outl)
  abv : RowI wr (w.heap.size + 1) (cnts L L.length)
  tb : wr.heap[w.heap.size]? = some (Obj.cells #[Value.int IntKind.i64 out0, Value.slice a L.length cap] 54 (0, 0))
  kp : Keep w wr
  sz : gm < wr.heap.size
  way : Way (shpS L) L.length outl S
  eq : go (shpS L) f outl S = ord (shpS L) L.length
  fuel : 3 * (L.length - outl.length) + S.length ≤ f
  top : f ≤ 3 * L.length + 1
/-- Worlds in which the blocks up to gm are as they were. -/
theorem RIt.move {L : List Nd} {w : World} {gm : Nat} {a : Option Addr} {cap : Nat} {out0 : Int} {f : Nat} {vw vw' : Value} {wr w' : World} {outl S outl' S' : List Nat} {f' : Nat} (I : RIt L w gm a cap out0 f vw wr outl S) (hg : w.heap.size + 1 < gm)
    (kp : ∀ g, g < gm → w'.heap[g]? = wr.heap[g]?) (hst : w'.os = wr.os ∧ w'.tape = wr.tape ∧ w'.output = wr.output ∧ wr.heap.size ≤ w'.heap.size) (own : OwnI w' vw' S'.reverse) (blk : ∀ b, vw'.ownBlock = some b → gm < b) (row : RowB w' gm (mets L.length outl'))
    (way : Way (shpS L) L.length outl' S') (eq : go (shpS L) f' outl' S' = ord (shpS L) L.length) (fuel : 3 * (L.length - outl'.length) + S'.length ≤ f') (top : f' ≤ 3 * L.length + 1) : RIt L w gm a cap out0 f' vw' w' outl' S' := by
  refine ⟨own, blk, row, ?_, ?_, ?_, by have := I.sz; omega, way, eq, fuel, top⟩
  · unfold RowI; rw [kp _ hg]; exact I.abv
  · rw [kp _ (by omega)]; exact I.tb
  · exact ⟨hst.1.trans I.kp.os, hst.2.1.trans I.kp.tape, hst.2.2.1.trans I.kp.output, by have := I.kp.size; omega, fun g hg2 => (kp g (by omega)).trans (I.kp.block g hg2)⟩
end Go.Proofs.Ytaogjiffnebnkaa.Mk
