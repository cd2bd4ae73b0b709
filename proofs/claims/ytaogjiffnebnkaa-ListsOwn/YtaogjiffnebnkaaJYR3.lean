import Derived.Test.YtaogjiffnebnkaaP4
import Derived.Test.YtaogjiffnebnkaaProg
import Derived.Test.YtaogjiffnebnkaaJYR2
import Derived.Test.YtaogjiffnebnkaaKYT5
import Derived.Test.YtaogjiffnebnkaaKYT6
import Derived.Test.YtaogjiffnebnkaaKYU1
import Derived.Test.YtaogjiffnebnkaaKYMM
import Derived.Test.YtaogjiffnebnkaaKM1
import Derived.Test.YtaogjiffnebnkaaKM2
import Derived.Test.YtaogjiffnebnkaaKM3
import Derived.WalkKit
import Derived.WalkSpells
import Derived.WalkLawsBesides
import Derived.Deep.Draws
import Derived.Deep.QuietTactic
import Derived.BigQuiet
import Derived.Laws.Externs
import Derived.Laws.CopyOwn
import Derived.RangeFuncBox
import Derived.RangeFuncLeaves
import Derived.RangeFuncCalls
import Derived.RangeFuncRecord
import Derived.Below
import Derived.Shelf.Abstract
import Derived.OwnWalkIn
import Derived.TacticsInMore
import Derived.LoopNIn
import Derived.LoopIn
import Derived.Sort.LoopGhostIn
import Derived.Deep.RegionLaw
import Derived.Deep.RegionWith
import Derived.Deep.RegionHeld3
import Derived.Stop.RegionWithIn
set_option linter.unusedVariables false
set_option linter.unusedSimpArgs false
namespace Go.Proofs.Ytaogjiffnebnkaa.Mk
open Go.RowKit Go.Shelf
attribute [local go_sem] Oper.semAt_some
attribute [local go_sem] run_store_float
/-- A list that is gathered beside another one. -/
structure KIt (w : World) (o0 : Obj) (gO : Nat) (lO : List Nat) (vO : Value) (vo : Value) (wr : World) (l : List Nat) : Prop where
  ownO : OwnI wr vO lO
  own : OwnI wr vo l
  bO : ∀ b, vO.ownBlock = some b → w.heap.size ≤ b ∧ b < gO
  bo : ∀ b, vo.ownBlock = some b → gO ≤ b
  tb : wr.heap[w.heap.size]? = some o0
  kp : Keep w wr
  lt : w.heap.size < gO
  sz : gO ≤ wr.heap.size
theorem KIt.app {w : World} {o0 : Obj} {gO : Nat} {lO : List Nat} {vO vo v' : Value} {wr B : World} {l : List Nat} {x : Nat} {o : Obj} (I : KIt w o0 gO lO vO vo wr l) (ho : OwnI B v' (l ++ [x])) (hgr : (wr.alloc o).grownBy B vo.ownBlock) (hsep : v'.ownBlock = vo.ownBlock ∨ v'.ownBlock = some (wr.heap.size + 1)) : KIt w o0 gO lO vO v' B (l ++ [x]) := by
  obtain ⟨k2, s2, o2, t2, u2⟩ := grown_al hgr
  have h1 := I.lt
  have h2 := I.sz
  have kk : ∀ g, g < gO → B.heap[g]? = wr.heap[g]? := fun g hg => k2 g (by omega) (fun e => by have := I.bo g e; omega)
  refine ⟨I.ownO.same (fun b hb => kk b (I.bO b hb).2), ho, I.bO, ?_, (kk _ h1).trans I.tb, ?_, h1, by omega⟩
  · intro b hb
    rcases hsep with e | e
    · rw [e] at hb; exact I.bo b hb
    · rw [e] at hb
      simp only [Option.some.injEq] at hb
      omega
  · exact ⟨o2.trans I.kp.os, t2.trans I.kp.tape, u2.trans I.kp.output, by have := I.kp.size; omega, fun g hg => (kk g (by omega)).trans (I.kp.block g hg)⟩
end Go.Proofs.Ytaogjiffnebnkaa.Mk
