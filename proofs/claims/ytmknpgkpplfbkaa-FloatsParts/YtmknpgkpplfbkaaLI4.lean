import Derived.Test.YtmknpgkpplfbkaaProg
import Derived.Test.YtmknpgkpplfbkaaLE3
import Derived.Test.YtmknpgkpplfbkaaLD5
import Derived.Test.YtmknpgkpplfbkaaLC10
import Derived.Test.YtmknpgkpplfbkaaLH4
import Derived.WalkKit
import Derived.WalkSpells
import Derived.WalkLawsBesides
import Derived.Laws.CopyOwn
import Derived.Deep.Draws
import Derived.Deep.QuietTactic
import Derived.BigQuiet
import Derived.Laws.MathBits
import Derived.Shelf.Small.Bits
import Derived.Laws.BytesArg
import Derived.Lib.OthersKept
import Derived.Deep.RegionWith
import Derived.WalkMore
import Derived.Deep.LoopGhost
import Derived.Deep.RegionHeld3
set_option linter.unusedVariables false
set_option linter.unusedSimpArgs false
namespace Go.Proofs.Ytmknpgkpplfbkaa
open Go.RowKit Lb
theorem Own.mut {B g : Nat} {w w' : World} {v : Value} {l : List Nat} (h : Own B w v l) (k : Mut g w w') (hg : g < B) : Own B w' v l := by
  refine ⟨h.1, ?_⟩
  rcases h.2 with h2 | ⟨g', cap, cur, hv, hg', hh, r⟩
  · exact .inl h2
  · exact .inr ⟨g', cap, cur, hv, hg', by rw [k.block g' (by omega)]; exact hh, r⟩
end Go.Proofs.Ytmknpgkpplfbkaa
