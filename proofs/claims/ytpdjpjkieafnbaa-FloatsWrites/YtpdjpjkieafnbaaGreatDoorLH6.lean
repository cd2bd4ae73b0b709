import Derived.Test.YtpdjpjkieafnbaaGreatDoorProg
import Derived.Test.YtpdjpjkieafnbaaGreatDoorLH3
import Derived.Test.YtpdjpjkieafnbaaGreatDoorLF4
import Derived.WalkKit
import Derived.WalkSpells
import Derived.WalkLawsBesides
import Derived.Laws.CopyOwn
import Derived.Deep.Draws
import Derived.Deep.QuietTactic
import Derived.BigQuiet
import Derived.Laws.MathBits
import Derived.Laws.BytesArg
import Derived.Lib.OthersKept
import Derived.Deep.RegionWith
import Derived.WalkMore
import Derived.Deep.LoopGhost
import Derived.Deep.RegionHeld3
import Derived.Test.YtpdjpjkieafnbaaGreatDoorLE3
import Derived.Test.YtpdjpjkieafnbaaGreatDoorLD6
import Derived.Test.YtpdjpjkieafnbaaGreatDoorLC18
set_option linter.unusedVariables false
set_option linter.unusedSimpArgs false
namespace Go.Proofs.YtpdjpjkieafnbaaGreatDoor.Li
open Go.RowKit Lb
theorem val_pos {l : List Nat} (hn : Nrm l) (h : l ≠ []) : 0 < val l := by
  have h1 := val_ge hn h
  have h2 : 0 < 4294967296 ^ (l.length - 1) := Nat.pos_of_ne_zero (by simp)
  omega
end Go.Proofs.YtpdjpjkieafnbaaGreatDoor.Li
set_option linter.unusedVariables false
set_option linter.unusedSimpArgs false
namespace Go.Proofs.YtpdjpjkieafnbaaGreatDoor.Li
open Go.RowKit Lb
theorem Own.mut {B g : Nat} {w w' : World} {v : Value} {l : List Nat} (h : Own B w v l) (k : Mut g w w') (hg : g < B) : Own B w' v l := by
  refine ⟨h.1, ?_⟩
  rcases h.2 with h2 | ⟨g', cap, cur, hv, hg', hh, r⟩
  · exact .inl h2
  · exact .inr ⟨g', cap, cur, hv, hg', by rw [k.block g' (by omega)]; exact hh, r⟩
end Go.Proofs.YtpdjpjkieafnbaaGreatDoor.Li
set_option linter.unusedVariables false
set_option linter.unusedSimpArgs false
namespace Go.Proofs.YtpdjpjkieafnbaaGreatDoor.Li
open Go.RowKit Lb
end Go.Proofs.YtpdjpjkieafnbaaGreatDoor.Li
