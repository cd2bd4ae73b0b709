import Derived.Test.YtinjikoocegooaaGreatDoorProg
import Derived.Test.YtinjikoocegooaaGreatDoorYX4
import Derived.Test.YtinjikoocegooaaGreatDoorYT5
import Derived.WalkKit
import Derived.WalkSpells
import Derived.WalkLawsBesides
import Derived.Deep.Draws
import Derived.Deep.QuietTactic
import Derived.BigQuiet
import Derived.Laws.Externs
import Derived.Laws.CopyOwn
import Derived.RangeFuncBox
import Derived.RangeFuncLeaves
import Derived.RangeFuncCalls
import Derived.RangeFuncRecord
import Derived.Below
import Derived.Shelf.Abstract
import Derived.OwnWalkIn
import Derived.TacticsInMore
import Derived.LoopNIn
import Derived.LoopIn
import Derived.Sort.LoopGhostIn
import Derived.Deep.RegionLaw
import Derived.Deep.RegionWith
import Derived.Deep.RegionHeld3
import Derived.Stop.RegionWithIn
set_option linter.unusedVariables false
set_option linter.unusedSimpArgs false
namespace Go.Proofs.YtinjikoocegooaaGreatDoor
open Go.RowKit Go.Shelf
attribute [local go_sem] Oper.semAt_some
theorem run_store_float {P : Program} {w : World} {a : Addr} {m : Mode} (k : FloatKind) (x : Nat) : (store a (.float k x) m).run P w = stored P w a (.float k x) m := run_store P w a _ m rfl
attribute [local go_sem] run_store_float
/-- The same tree, its sides exchanged. -/
def shpS (L : List Nd) : Sh := ⟨(shp L).K, (shp L).B, (shp L).A⟩
theorem rch_swap1 {L : List Nd} {i : Nat} (h : Rch (shp L) i) : Rch (shpS L) i := by
  induction h with
  | zero => exact .zero
  | left _ hk ih => exact Rch.right (t := shpS L) ih hk
  | right _ hk ih => exact Rch.left (t := shpS L) ih hk
theorem rch_swap2 {L : List Nd} {i : Nat} (h : Rch (shpS L) i) : Rch (shp L) i := by
  induction h with
  | zero => exact .zero
  | left _ hk ih => exact Rch.right (t := shp L) ih hk
  | right _ hk ih => exact Rch.left (t := shp L) ih hk
theorem Rgt.wiS {L : List Nd} (h : Rgt L) : In (shpS L) L.length := ⟨h.1, fun i hi hk => ⟨(h.kids hi hk).2.2.1, (h.kids hi hk).1.2.1⟩⟩
theorem ordS_mem {L : List Nd} (h : Rgt L) (i : Nat) : i ∈ ord (shpS L) L.length ↔ i ∈ ord (shp L) L.length := by
  rw [ord_mem h.wiS, ord_mem h.wi]
  exact ⟨rch_swap2, rch_swap1⟩
theorem cnt_root {L : List Nd} (h : Rgt L) : ∀ m, m ≤ L.length → cnt (shp L) 0 m = 0
  | 0, _ => rfl
  | m + 1, hm => by
    rw [cnt, cnt_root h m (by omega)]
    by_cases hk : (shp L).K m = true
    · have := h.kids (show m < L.length by omega) hk
      rw [if_neg (fun q => by omega), if_neg (fun q => by omega)]
    · rw [if_neg (fun q => hk q.1), if_neg (fun q => hk q.1)]
theorem right_kids {L : List Nd} {i : Nat} (hr : rightB (L.getD i nd0) L.length = true) (hk : (shp L).K i = true) :
    ((L.getD i nd0).lf = ((shp L).A i : Nat) ∧ (shp L).A i < L.length ∧ 0 < (shp L).A i) ∧ ((L.getD i nd0).rt = ((shp L).B i : Nat) ∧ (shp L).B i < L.length ∧ 0 < (shp L).B i) := by
  simp only [shp, decide_eq_true_eq] at hk ⊢
  generalize L.getD i nd0 = n at *
  unfold rightB spl at hr
  rcases hk with hk | hk
  · rw [if_neg (by omega), if_pos hk] at hr
    simp only [Bool.and_eq_true, decide_eq_true_eq] at hr
    omega
  · rw [if_neg (by omega), if_neg (by omega), if_pos hk] at hr
    simp only [Bool.and_eq_true, decide_eq_true_eq] at hr
    omega
/-- What the reference's search holds between two rounds. -/
structure RIt (L : List Nd) (w : World) (gm : Nat) (a : Option Addr) (cap : Nat) (out0 : Int) (f : Nat) (vw : Value) (wr : World) (outl S : List Nat) : Prop where
  own : OwnI wr vw S.reverse
  blk : ∀ b, vw.ownBlock = some b → gm < b
  row : RowB wr gm (mets L.length outl)
  abv : RowI wr (w.heap.size + 1) (cnts L L.length)
  tb : wr.heap[w.heap.size]? = some (Obj.cells #[Value.int IntKind.i64 out0, Value.slice a L.length cap] 48 (0, 0))
  kp : Keep w wr
  sz : gm < wr.heap.size
  way : Way (shpS L) L.length outl S
  eq : go (shpS L) f outl S = ord (shpS L) L.length
  fuel : 3 * (L.length - outl.length) + S.length ≤ f
  top : f ≤ 3 * L.length + 1
/-- Worlds in which the blocks up to gm are as they were. -/
theorem RIt.move {L : List Nd} {w : World} {gm : Nat} {a : Option Addr} {cap : Nat} {out0 : Int} {f : Nat} {vw vw' : Value} {wr w' : World} {outl S outl' S' : List Nat} {f' : Nat} (I : RIt L w gm a cap out0 f vw wr outl S) (hg : w.heap.size + 1 < gm)
    (kp : ∀ g, g < gm → w'.heap[g]? = wr.heap[g]?) (hst : w'.os = wr.os ∧ w'.tape = wr.tape ∧ w'.output = wr.output ∧ wr.heap.size ≤ w'.heap.size) (own : OwnI w' vw' S'.reverse) (blk : ∀ b, vw'.ownBlock = some b → gm < b) (row : RowB w' gm (mets L.length outl'))
    (way : Way (shpS L) L.length outl' S') (eq : go (shpS L) f' outl' S' = ord (shpS L) L.length) (fuel : 3 * (L.length - outl'.length) + S'.length ≤ f') (top : f' ≤ 3 * L.length + 1) : RIt L w gm a cap out0 f' vw' w' outl' S' := by
  refine ⟨own, blk, row, ?_, ?_, ?_, by have := I.sz; omega, way, eq, fuel, top⟩
  · unfold RowI; rw [kp _ hg]; exact I.abv
  · rw [kp _ (by omega)]; exact I.tb
  · exact ⟨hst.1.trans I.kp.os, hst.2.1.trans I.kp.tape, hst.2.2.1.trans I.kp.output, by have := I.kp.size; omega, fun g hg2 => (kp g (by omega)).trans (I.kp.block g hg2)⟩
end Go.Proofs.YtinjikoocegooaaGreatDoor
