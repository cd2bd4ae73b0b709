import Derived.Test.YtbpfpldahmfjaaaGreatDoorProg
import Derived.Test.YtbpfpldahmfjaaaGreatDoorLH6
import Derived.Test.YtbpfpldahmfjaaaGreatDoorLC18
import Derived.WalkKit
import Derived.WalkSpells
import Derived.WalkLawsBesides
import Derived.Laws.CopyOwn
import Derived.Deep.Draws
import Derived.Deep.QuietTactic
import Derived.BigQuiet
import Derived.Laws.MathBits
import Derived.Laws.BytesArg
import Derived.Lib.OthersKept
import Derived.Deep.RegionWith
import Derived.WalkMore
import Derived.Deep.LoopGhost
import Derived.Deep.RegionHeld3
set_option linter.unusedVariables false
set_option linter.unusedSimpArgs false
namespace Go.Proofs.YtbpfpldahmfjaaaGreatDoor.Li
open Go.RowKit Lb
theorem divisor_all (a b : Option Addr) (ca cb : Nat) (la lb : List Nat) (w : World) (hca : la.length ≤ ca) (hcb : lb.length ≤ cb) (hla : la.length ≤ 70368744177663) (hlb : lb.length ≤ 70368744177663) (hra : Rd w a la) (hrb : Rd w b lb) (hma : Lim la) (hmb : Lim lb) (na : Nrm la) (nb : Nrm lb) :
    Calls Tryz.prog 35 #[.slice a la.length ca, .slice b lb.length cb] w fun e w' => ∃ v, e = .returned v ∧ NatR w.heap.size w' v (Nat.gcd (val la) (val lb)) ∧ Keep w w' := by
  by_cases h : val la < val lb
  · have := divisor_lt b a cb ca lb la w hcb hca hlb hla hrb hra hmb hma nb na h
    rwa [Nat.gcd_comm] at this
  · exact divisor_ge a b ca cb la lb w hca hcb hla hlb hra hrb hma hmb na nb (by omega)
end Go.Proofs.YtbpfpldahmfjaaaGreatDoor.Li
