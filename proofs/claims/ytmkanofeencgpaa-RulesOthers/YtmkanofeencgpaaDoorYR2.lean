import Derived.Test.YtmkanofeencgpaaDoorProg
import Derived.Test.YtmkanofeencgpaaDoorYR1
import Derived.WalkKit
import Derived.WalkSpells
import Derived.WalkLawsBesides
import Derived.Deep.Draws
import Derived.Deep.QuietTactic
import Derived.BigQuiet
import Derived.Laws.Externs
import Derived.Laws.CopyOwn
import Derived.RangeFuncBox
import Derived.RangeFuncLeaves
import Derived.RangeFuncCalls
import Derived.RangeFuncRecord
import Derived.Below
import Derived.Shelf.Abstract
import Derived.OwnWalkIn
import Derived.TacticsInMore
import Derived.LoopNIn
import Derived.LoopIn
import Derived.Sort.LoopGhostIn
import Derived.Deep.RegionLaw
import Derived.Deep.RegionWith
import Derived.Deep.RegionHeld3
import Derived.Stop.RegionWithIn
set_option linter.unusedVariables false
set_option linter.unusedSimpArgs false
namespace Go.Proofs.YtmkanofeencgpaaDoor
open Go.RowKit Go.Shelf
attribute [local go_sem] Oper.semAt_some
attribute [local go_sem] run_store_float
set_option maxRecDepth 100000 in
theorem rShape_nil (w : World) (a : Option Addr) (cap : Nat) (out : Int) :
    Calls Tryd.prog 53 #[.agg #[.int .i64 out, .slice a 0 cap]] w fun e w' => e = .returned (.tuple #[.int .i64 70, .int .i64 0]) ∧ Keep w w' := by
  go_enter Tryd.func53, Tryd.ntmps53
  go_wp2_with fail
  go_ret2
  exact ⟨rfl, (Keep.refl _).alloc _⟩
theorem rShape_any (w : World) (a : Option Addr) (cap : Nat) (out : Int) (L : List Nd) (hLn : L.length ≤ 2199023255552) (hrd : RdN w a L) :
    Calls Tryd.prog 53 #[.agg #[.int .i64 out, .slice a L.length cap]] w fun e w' => e = .returned (.tuple #[.int .i64 (shE L), .int .i64 (shI L : Nat)]) ∧ Keep w w' := by
  by_cases h : L.length = 0
  · have e1 : shE L = 70 := by unfold shE; rw [if_pos h]
    have e2 : shI L = 0 := by unfold shI; rw [if_pos h]
    rw [e1, e2, h]
    exact rShape_nil w a cap out
  · exact (callsIn_wide (n := 3)).1 (rShape_in 3 (by omega) w a cap out L hLn (by omega) hrd)
end Go.Proofs.YtmkanofeencgpaaDoor
