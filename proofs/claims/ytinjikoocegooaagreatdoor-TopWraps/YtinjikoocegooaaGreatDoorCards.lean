/-
  DERIVED. GIVEN WITH THE SEED: THE CARDS: each row of YtinjikoocegooaaGreatDoorRows.lean that lists a variable, with what it lists TIED to the program's text (the seventh form; the later family's looks); each row that meets fmt, with fmt's text TOLD by the authors' own Lean function (tested against real Go, not proved from fmt's source: count such statements apart). THE CARD IS WHAT COUNTS. Prove the row's statement (the work); the ties are given (YtinjikoocegooaaGreatDoorTie.lean); close each card by the builder's one call (the guide's Derived/Test/ToyasCard.lean, 'card_holds'). Laid BY PROGRAM, IN A SANDBOX (cutbox-door.mjs). By AI agents, Wed Nov 11 2026. No macro, syntax, notation, axiom, sorry.
-/
import Derived.Test.YtinjikoocegooaaGreatDoorRows
import GoSem.ClaimSeven
namespace Go.Proofs.YtinjikoocegooaaGreatDoor
namespace Rows

/-- THE TIED CARD OF 'thickettop.TopWraps'. -/
def topWrapsCard : Claim7 := { stood := { row := topWrapsRow, standIns := [], harness := (true, "89b6cc6050cd2a6303862b939171e48af5bb6dbe7846301a46454f1abf332a84"), looks := false }, kinds := [], alts := [], laidByText := true, laidKinds := [.data], laidTests := true, laidLooks := .later }
def TopWrapsCardSaid : Prop := Claim7.holds Tryz.pinned (.plain (OpenSpec.ofChange topWrapsSpec)) topWrapsCard

/-- THE SECOND FORM's CARD OF 'thickettop.TopWraps'. -/
def topWrapsUptoCard : Claim7 := { stood := { row := topWrapsUptoRow, standIns := [], harness := (true, "89b6cc6050cd2a6303862b939171e48af5bb6dbe7846301a46454f1abf332a84"), looks := false }, kinds := [], alts := [], laidByText := true, laidKinds := [.data], laidTests := true, laidLooks := .later }
def TopWrapsUptoCardSaid : Prop := Claim7.holds Tryz.pinned (.plain (OpenSpec.upto topWrapsSpec)) topWrapsUptoCard
end Rows
end Go.Proofs.YtinjikoocegooaaGreatDoor
