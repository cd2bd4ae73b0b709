/-
  DERIVED. GIVEN WITH THE SEED: THE CARDS: each row of YtodegcobkngmlaaGreatDoorRows.lean that lists a variable, with what it lists TIED to the program's text (the seventh form; the later family's looks); each row that meets fmt, with fmt's text TOLD by the authors' own Lean function (tested against real Go, not proved from fmt's source: count such statements apart). THE CARD IS WHAT COUNTS. Prove the row's statement (the work); the ties are given (YtodegcobkngmlaaGreatDoorTie.lean); close each card by the builder's one call (the guide's Derived/Test/ToyasCard.lean, 'card_holds'). Laid BY PROGRAM, IN A SANDBOX (cutbox-door.mjs). By AI agents, Wed Nov 11 2026. No macro, syntax, notation, axiom, sorry.
-/
import Derived.Test.YtodegcobkngmlaaGreatDoorRows
import GoSem.ClaimSeven
namespace Go.Proofs.YtodegcobkngmlaaGreatDoor
namespace Rows

/-- THE TIED CARD OF 'thicketlaw24.CascadeAsks'. -/
def cascadeAsksCard : Claim7 := { stood := { row := cascadeAsksRow, standIns := [], harness := (true, "c1fca5cc8c2d2b8de3c611f1471ecee3b75eae32899936e5eddc5206d9d532dd"), looks := false }, kinds := [], alts := [], laidByText := true, laidKinds := [.data], laidTests := true, laidLooks := .later }
def CascadeAsksCardSaid : Prop := Claim7.holds Tryz.pinned (.plain (OpenSpec.ofChange cascadeAsksSpec)) cascadeAsksCard

/-- THE SECOND FORM's CARD OF 'thicketlaw24.CascadeAsks'. -/
def cascadeAsksUptoCard : Claim7 := { stood := { row := cascadeAsksUptoRow, standIns := [], harness := (true, "c1fca5cc8c2d2b8de3c611f1471ecee3b75eae32899936e5eddc5206d9d532dd"), looks := false }, kinds := [], alts := [], laidByText := true, laidKinds := [.data], laidTests := true, laidLooks := .later }
def CascadeAsksUptoCardSaid : Prop := Claim7.holds Tryz.pinned (.plain (OpenSpec.upto cascadeAsksSpec)) cascadeAsksUptoCard
end Rows
end Go.Proofs.YtodegcobkngmlaaGreatDoor
