import Derived.Test.YtgjhbolnnnibkaaGreatDoorProg
import Derived.Test.YtgjhbolnnnibkaaGreatDoorAA10
import Derived.Test.YtgjhbolnnnibkaaGreatDoorQQ9
import Derived.WalkKit
import Derived.WalkSpells
import Derived.WalkLawsBesides
import Derived.Laws.CopyOwn
import Derived.Deep.Draws
import Derived.Deep.QuietTactic
import Derived.BigQuiet
import Derived.Laws.MathBits
import Derived.Laws.BytesArg
import Derived.Lib.OthersKept
import Derived.Deep.RegionWith
import Derived.Laws.Externs
import Derived.WalkMore
import Derived.Deep.LoopGhost
import Derived.Deep.RegionHeld3
set_option linter.unusedVariables false
set_option linter.unusedSimpArgs false
namespace Go.Proofs.YtgjhbolnnnibkaaGreatDoor.Li
open Go.RowKit Lb
theorem from_nv (n : Nat) (w : World) (hn : n < 18446744073709551616) :
    Calls Tryz.prog 46 #[.int .u64 (n : Nat)] w fun e w' => ∃ v, e = .returned v ∧ Nv w' v n ∧ Keep w w' := by
  refine (from_any n w hn).mono ?_
  rintro e w' ⟨v, l, rfl, h1, h2, h3, h4, h5⟩
  obtain ⟨a, c, rfl, q1, q2⟩ := h1.shape
  exact ⟨_, rfl, ⟨a, c, l, rfl, q1, q2, h2, h3, h4⟩, h5⟩
theorem From_nv (n : Nat) (w : World) (hn : n < 18446744073709551616) :
    Calls Tryz.prog 25 #[.int .u64 (n : Nat)] w fun e w' => ∃ v, e = .returned v ∧ Nv w' v n ∧ Keep w w' := by
  have h := from_nv n w hn
  go_enter Tryz.func25, Tryz.ntmps25
  go_wp2_with fail
  refine h.mono ?_
  rintro e w' ⟨v, rfl, h1, h2⟩
  go_wp2_with fail
  go_ret
  exact ⟨_, rfl, h1, h2⟩
end Go.Proofs.YtgjhbolnnnibkaaGreatDoor.Li
