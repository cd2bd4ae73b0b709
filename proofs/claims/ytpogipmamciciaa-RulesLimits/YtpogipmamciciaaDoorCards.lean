/-
  DERIVED. GIVEN WITH THE SEED: THE CARDS: each row of YtpogipmamciciaaDoorRows.lean that lists a variable, with what it lists TIED to the program's text (the seventh form; the later family's looks); each row that meets fmt, with fmt's text TOLD by the authors' own Lean function (tested against real Go, not proved from fmt's source: count such statements apart). THE CARD IS WHAT COUNTS. Prove the row's statement (the work); the ties are given (YtpogipmamciciaaDoorTie.lean); close each card by the builder's one call (the guide's Derived/Test/ToyasCard.lean, 'card_holds'). Laid BY PROGRAM, IN A SANDBOX (cutbox-door.mjs). By AI agents, Wed Nov 11 2026. No macro, syntax, notation, axiom, sorry.
-/
import Derived.Test.YtpogipmamciciaaDoorRows
import GoSem.ClaimSeven
namespace Go.Proofs.YtpogipmamciciaaDoor
namespace Rows

/-- THE TIED CARD OF 'thicketlaw08.RulesLimits'. -/
def rulesLimitsCard : Claim7 := { stood := { row := rulesLimitsRow, standIns := [], harness := (true, "91aa16b97a66dfb5ce2e623718c89ea095c95153c0300c8dc923e0409d7a570d"), looks := false }, kinds := [], alts := [], laidByText := true, laidKinds := [.data], laidTests := true, laidLooks := .later }
def RulesLimitsCardSaid : Prop := Claim7.holds Tryd.pinned (.plain (OpenSpec.ofChange rulesLimitsSpec)) rulesLimitsCard

/-- THE SECOND FORM's CARD OF 'thicketlaw08.RulesLimits'. -/
def rulesLimitsUptoCard : Claim7 := { stood := { row := rulesLimitsUptoRow, standIns := [], harness := (true, "91aa16b97a66dfb5ce2e623718c89ea095c95153c0300c8dc923e0409d7a570d"), looks := false }, kinds := [], alts := [], laidByText := true, laidKinds := [.data], laidTests := true, laidLooks := .later }
def RulesLimitsUptoCardSaid : Prop := Claim7.holds Tryd.pinned (.plain (OpenSpec.upto rulesLimitsSpec)) rulesLimitsUptoCard
end Rows
end Go.Proofs.YtpogipmamciciaaDoor
