import Derived.Test.YtgjhbolnnnibkaaGreatDoorProg
import Derived.Test.YtgjhbolnnnibkaaGreatDoorQQ12
import Derived.Test.YtgjhbolnnnibkaaGreatDoorNC9
import Derived.Test.YtgjhbolnnnibkaaGreatDoorNB2
import Derived.Test.YtgjhbolnnnibkaaGreatDoorAA8
import Derived.WalkKit
import Derived.WalkSpells
import Derived.WalkLawsBesides
import Derived.Laws.CopyOwn
import Derived.Deep.Draws
import Derived.Deep.QuietTactic
import Derived.BigQuiet
import Derived.Laws.MathBits
import Derived.Laws.BytesArg
import Derived.Lib.OthersKept
import Derived.Deep.RegionWith
import Derived.Laws.Externs
import Derived.WalkMore
import Derived.Deep.LoopGhost
import Derived.Deep.RegionHeld3
import Derived.Deep.CutBlock
import Derived.Deep.CutRange
set_option linter.unusedVariables false
set_option linter.unusedSimpArgs false
namespace Go.Proofs.YtgjhbolnnnibkaaGreatDoor.Li
open Go.RowKit Lb Nr
theorem Product_nv (v1 v2 : Value) (x y k : Nat) (w : World) (h : Nv w v1 x) (g : Nv w v2 y) (hx : x < 4294967296 ^ k) (hy : y < 4294967296 ^ k) (hk : k ≤ 1000) :
    Calls Tryz.prog 24 #[v1, v2] w fun e w' => ∃ v, e = .returned v ∧ Nv w' v (x * y) ∧ Keep w w' := by
  obtain ⟨a, c, l, rfl, h1, h2, h3, h4, h5, h6⟩ := h.few hx
  obtain ⟨b, d, m, rfl, g1, g2, g3, g4, g5, g6⟩ := g.few hy
  have := Product_any a b c d l m w (by omega) (by omega) h2 g2 h3 g3
  rw [h5, g5] at this
  exact this
end Go.Proofs.YtgjhbolnnnibkaaGreatDoor.Li
