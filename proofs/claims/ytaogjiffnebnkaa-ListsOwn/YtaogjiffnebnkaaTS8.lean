import Derived.Test.YtaogjiffnebnkaaProg
import Derived.Test.YtaogjiffnebnkaaP4
import Derived.Test.YtaogjiffnebnkaaRI
import Derived.WalkKit
import Derived.WalkSpells
import Derived.WalkLawsBesides
import Derived.Deep.Draws
import Derived.Deep.QuietTactic
import Derived.BigQuiet
import Derived.Laws.Externs
import Derived.Laws.CopyOwn
import Derived.RangeFuncBox
import Derived.RangeFuncLeaves
import Derived.RangeFuncCalls
import Derived.RangeFuncRecord
import Derived.Below
import Derived.Shelf.Abstract
import Derived.OwnWalkIn
import Derived.TacticsInMore
import Derived.LoopNIn
import Derived.LoopIn
import Derived.Sort.LoopGhostIn
import Derived.Deep.RegionLaw
import Derived.Deep.RegionWith
import Derived.Deep.RegionHeld3
import Derived.Stop.RegionWithIn
import Derived.RegionTactic
import Derived.Orders
import Derived.OrdersIn
import Derived.RegionIn
set_option linter.unusedVariables false
set_option linter.unusedSimpArgs false
namespace Go.Proofs.Ytaogjiffnebnkaa
open Go.RowKit Go.Shelf
attribute [local go_sem] run_store_float
def updA (x : Nat → Value) (i : Nat) (v : Value) : Nat → Value := fun j => if j = i then v else x j
def alI (V : Nat → Value) (w4 : World) (FR : (Nat → Value) → Act) (l : Array Bool) (A : Act) (w : World) : Prop :=
  l.size = 57 ∧ ∃ x : Nat → Value, A = FR x ∧ Keep w4 w ∧ ∀ j, l.getD j false = true → x j = V j
theorem alI.next {V : Nat → Value} {w4 : World} {FR : (Nat → Value) → Act} {l : Array Bool} {x : Nat → Value} {A' : Act} {w w' : World} (i : Nat) (hs : l.size = 57) (k0 : Keep w4 w) (h : ∀ j, l.getD j false = true → x j = V j) (k : Keep w w') (hA : A' = FR (updA x i (V i))) : alI V w4 FR (l.setIfInBounds i true) A' w' := by
  refine ⟨by simpa using hs, updA x i (V i), hA, k0.trans k, ?_⟩
  intro j hj
  rcases listed_set hj with rfl | hj
  · simp [updA]
  · by_cases e : j = i
    · subst e; simp [updA]
    · simp only [updA, if_neg e]; exact h j hj
end Go.Proofs.Ytaogjiffnebnkaa
