/-
  DERIVED. GIVEN WITH THE SEED: THE CARDS: each row of YtodegcobkngmlaaDoorRows.lean that lists a variable, with what it lists TIED to the program's text (the seventh form; the later family's looks); each row that meets fmt, with fmt's text TOLD by the authors' own Lean function (tested against real Go, not proved from fmt's source: count such statements apart). THE CARD IS WHAT COUNTS. Prove the row's statement (the work); the ties are given (YtodegcobkngmlaaDoorTie.lean); close each card by the builder's one call (the guide's Derived/Test/ToyasCard.lean, 'card_holds'). Laid BY PROGRAM, IN A SANDBOX (cutbox-door.mjs). By AI agents, Wed Nov 11 2026. No macro, syntax, notation, axiom, sorry.
-/
import Derived.Test.YtodegcobkngmlaaDoorRows
import GoSem.ClaimSeven
namespace Go.Proofs.YtodegcobkngmlaaDoor
namespace Rows

/-- THE TIED CARD OF 'thicketlaw24.CascadeHolds'. -/
def cascadeHoldsCard : Claim7 := { stood := { row := cascadeHoldsRow, standIns := [], harness := (true, "4201413d97a5b5d0e02db1f76dc8bdd08cf9eaf77c519f2aa70944a9cd643471"), looks := false }, kinds := [], alts := [], laidByText := true, laidKinds := [.data], laidTests := true, laidLooks := .later }
def CascadeHoldsCardSaid : Prop := Claim7.holds Tryd.pinned (.plain (OpenSpec.ofChange cascadeHoldsSpec)) cascadeHoldsCard

/-- THE TIED CARD OF 'thicketlaw24.CascadeWhole'. -/
def cascadeWholeCard : Claim7 := { stood := { row := cascadeWholeRow, standIns := [], harness := (true, "4201413d97a5b5d0e02db1f76dc8bdd08cf9eaf77c519f2aa70944a9cd643471"), looks := false }, kinds := [], alts := [], laidByText := true, laidKinds := [.data], laidTests := true, laidLooks := .later }
def CascadeWholeCardSaid : Prop := Claim7.holds Tryd.pinned (.plain (OpenSpec.ofChange cascadeWholeSpec)) cascadeWholeCard

/-- THE SECOND FORM's CARD OF 'thicketlaw24.CascadeHolds'. -/
def cascadeHoldsUptoCard : Claim7 := { stood := { row := cascadeHoldsUptoRow, standIns := [], harness := (true, "4201413d97a5b5d0e02db1f76dc8bdd08cf9eaf77c519f2aa70944a9cd643471"), looks := false }, kinds := [], alts := [], laidByText := true, laidKinds := [.data], laidTests := true, laidLooks := .later }
def CascadeHoldsUptoCardSaid : Prop := Claim7.holds Tryd.pinned (.plain (OpenSpec.upto cascadeHoldsSpec)) cascadeHoldsUptoCard

/-- THE SECOND FORM's CARD OF 'thicketlaw24.CascadeWhole'. -/
def cascadeWholeUptoCard : Claim7 := { stood := { row := cascadeWholeUptoRow, standIns := [], harness := (true, "4201413d97a5b5d0e02db1f76dc8bdd08cf9eaf77c519f2aa70944a9cd643471"), looks := false }, kinds := [], alts := [], laidByText := true, laidKinds := [.data], laidTests := true, laidLooks := .later }
def CascadeWholeUptoCardSaid : Prop := Claim7.holds Tryd.pinned (.plain (OpenSpec.upto cascadeWholeSpec)) cascadeWholeUptoCard
end Rows
end Go.Proofs.YtodegcobkngmlaaDoor
