import Derived.Test.YtaogjiffnebnkaaP4
import Derived.Test.YtaogjiffnebnkaaProg
import Derived.Test.YtaogjiffnebnkaaJYR3
import Derived.Test.YtaogjiffnebnkaaJYT3
import Derived.Test.YtaogjiffnebnkaaJYMM
import Derived.Test.YtaogjiffnebnkaaKYT5
import Derived.Test.YtaogjiffnebnkaaKYT6
import Derived.Test.YtaogjiffnebnkaaKYU1
import Derived.Test.YtaogjiffnebnkaaKYMM
import Derived.Test.YtaogjiffnebnkaaKM1
import Derived.Test.YtaogjiffnebnkaaKM2
import Derived.Test.YtaogjiffnebnkaaKM3
import Derived.WalkKit
import Derived.WalkSpells
import Derived.WalkLawsBesides
import Derived.Deep.Draws
import Derived.Deep.QuietTactic
import Derived.BigQuiet
import Derived.Laws.Externs
import Derived.Laws.CopyOwn
import Derived.RangeFuncBox
import Derived.RangeFuncLeaves
import Derived.RangeFuncCalls
import Derived.RangeFuncRecord
import Derived.Below
import Derived.Shelf.Abstract
import Derived.OwnWalkIn
import Derived.TacticsInMore
import Derived.LoopNIn
import Derived.LoopIn
import Derived.Sort.LoopGhostIn
import Derived.Deep.RegionLaw
import Derived.Deep.RegionWith
import Derived.Deep.RegionHeld3
import Derived.Stop.RegionWithIn
set_option linter.unusedVariables false
set_option linter.unusedSimpArgs false
namespace Go.Proofs.Ytaogjiffnebnkaa.Mk
open Go.RowKit Go.Shelf
attribute [local go_sem] run_store_float
end Go.Proofs.Ytaogjiffnebnkaa.Mk
