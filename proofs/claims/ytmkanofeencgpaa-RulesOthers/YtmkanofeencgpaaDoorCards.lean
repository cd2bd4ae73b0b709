/-
  DERIVED. GIVEN WITH THE SEED: THE CARDS: each row of YtmkanofeencgpaaDoorRows.lean that lists a variable, with what it lists TIED to the program's text (the seventh form; the later family's looks); each row that meets fmt, with fmt's text TOLD by the authors' own Lean function (tested against real Go, not proved from fmt's source: count such statements apart). THE CARD IS WHAT COUNTS. Prove the row's statement (the work); the ties are given (YtmkanofeencgpaaDoorTie.lean); close each card by the builder's one call (the guide's Derived/Test/ToyasCard.lean, 'card_holds'). Laid BY PROGRAM, IN A SANDBOX (cutbox-door.mjs). By AI agents, Wed Nov 11 2026. No macro, syntax, notation, axiom, sorry.
-/
import Derived.Test.YtmkanofeencgpaaDoorRows
import GoSem.ClaimSeven
namespace Go.Proofs.YtmkanofeencgpaaDoor
namespace Rows

/-- THE TIED CARD OF 'thicketlaw08.RulesCheck'. -/
def rulesCheckCard : Claim7 := { stood := { row := rulesCheckRow, standIns := [], harness := (true, "d55ca23eb891e5f45dd8f18dd78fcd65d1d4cf0c31a07b2a028c54fbb2590812"), looks := false }, kinds := [], alts := [], laidByText := true, laidKinds := [.data], laidTests := true, laidLooks := .later }
def RulesCheckCardSaid : Prop := Claim7.holds Tryd.pinned (.plain (OpenSpec.ofChange rulesCheckSpec)) rulesCheckCard

/-- THE TIED CARD OF 'thicketlaw08.RulesRooms'. -/
def rulesRoomsCard : Claim7 := { stood := { row := rulesRoomsRow, standIns := [], harness := (true, "d55ca23eb891e5f45dd8f18dd78fcd65d1d4cf0c31a07b2a028c54fbb2590812"), looks := false }, kinds := [], alts := [], laidByText := true, laidKinds := [.data], laidTests := true, laidLooks := .later }
def RulesRoomsCardSaid : Prop := Claim7.holds Tryd.pinned (.plain (OpenSpec.ofChange rulesRoomsSpec)) rulesRoomsCard

/-- THE TIED CARD OF 'thicketlaw08.RulesWhole'. -/
def rulesWholeCard : Claim7 := { stood := { row := rulesWholeRow, standIns := [], harness := (true, "d55ca23eb891e5f45dd8f18dd78fcd65d1d4cf0c31a07b2a028c54fbb2590812"), looks := false }, kinds := [], alts := [], laidByText := true, laidKinds := [.data], laidTests := true, laidLooks := .later }
def RulesWholeCardSaid : Prop := Claim7.holds Tryd.pinned (.plain (OpenSpec.ofChange rulesWholeSpec)) rulesWholeCard

/-- THE TIED CARD OF 'thicketlaw08.RulesWraps'. -/
def rulesWrapsCard : Claim7 := { stood := { row := rulesWrapsRow, standIns := [], harness := (true, "d55ca23eb891e5f45dd8f18dd78fcd65d1d4cf0c31a07b2a028c54fbb2590812"), looks := false }, kinds := [], alts := [], laidByText := true, laidKinds := [.data], laidTests := true, laidLooks := .later }
def RulesWrapsCardSaid : Prop := Claim7.holds Tryd.pinned (.plain (OpenSpec.ofChange rulesWrapsSpec)) rulesWrapsCard

/-- THE TIED CARD OF 'thicketlaw08.RulesOthers'. -/
def rulesOthersCard : Claim7 := { stood := { row := rulesOthersRow, standIns := [], harness := (true, "d55ca23eb891e5f45dd8f18dd78fcd65d1d4cf0c31a07b2a028c54fbb2590812"), looks := false }, kinds := [], alts := [], laidByText := true, laidKinds := [.data], laidTests := true, laidLooks := .later }
def RulesOthersCardSaid : Prop := Claim7.holds Tryd.pinned (.plain (OpenSpec.ofChange rulesOthersSpec)) rulesOthersCard

/-- THE TIED CARD OF 'thicketlaw08.RulesOwn'. -/
def rulesOwnCard : Claim7 := { stood := { row := rulesOwnRow, standIns := [], harness := (true, "d55ca23eb891e5f45dd8f18dd78fcd65d1d4cf0c31a07b2a028c54fbb2590812"), looks := false }, kinds := [], alts := [], laidByText := true, laidKinds := [.data], laidTests := true, laidLooks := .later }
def RulesOwnCardSaid : Prop := Claim7.holds Tryd.pinned (.plain (OpenSpec.ofChange rulesOwnSpec)) rulesOwnCard

/-- THE SECOND FORM's CARD OF 'thicketlaw08.RulesCheck'. -/
def rulesCheckUptoCard : Claim7 := { stood := { row := rulesCheckUptoRow, standIns := [], harness := (true, "d55ca23eb891e5f45dd8f18dd78fcd65d1d4cf0c31a07b2a028c54fbb2590812"), looks := false }, kinds := [], alts := [], laidByText := true, laidKinds := [.data], laidTests := true, laidLooks := .later }
def RulesCheckUptoCardSaid : Prop := Claim7.holds Tryd.pinned (.plain (OpenSpec.upto rulesCheckSpec)) rulesCheckUptoCard

/-- THE SECOND FORM's CARD OF 'thicketlaw08.RulesRooms'. -/
def rulesRoomsUptoCard : Claim7 := { stood := { row := rulesRoomsUptoRow, standIns := [], harness := (true, "d55ca23eb891e5f45dd8f18dd78fcd65d1d4cf0c31a07b2a028c54fbb2590812"), looks := false }, kinds := [], alts := [], laidByText := true, laidKinds := [.data], laidTests := true, laidLooks := .later }
def RulesRoomsUptoCardSaid : Prop := Claim7.holds Tryd.pinned (.plain (OpenSpec.upto rulesRoomsSpec)) rulesRoomsUptoCard

/-- THE SECOND FORM's CARD OF 'thicketlaw08.RulesWhole'. -/
def rulesWholeUptoCard : Claim7 := { stood := { row := rulesWholeUptoRow, standIns := [], harness := (true, "d55ca23eb891e5f45dd8f18dd78fcd65d1d4cf0c31a07b2a028c54fbb2590812"), looks := false }, kinds := [], alts := [], laidByText := true, laidKinds := [.data], laidTests := true, laidLooks := .later }
def RulesWholeUptoCardSaid : Prop := Claim7.holds Tryd.pinned (.plain (OpenSpec.upto rulesWholeSpec)) rulesWholeUptoCard

/-- THE SECOND FORM's CARD OF 'thicketlaw08.RulesWraps'. -/
def rulesWrapsUptoCard : Claim7 := { stood := { row := rulesWrapsUptoRow, standIns := [], harness := (true, "d55ca23eb891e5f45dd8f18dd78fcd65d1d4cf0c31a07b2a028c54fbb2590812"), looks := false }, kinds := [], alts := [], laidByText := true, laidKinds := [.data], laidTests := true, laidLooks := .later }
def RulesWrapsUptoCardSaid : Prop := Claim7.holds Tryd.pinned (.plain (OpenSpec.upto rulesWrapsSpec)) rulesWrapsUptoCard

/-- THE SECOND FORM's CARD OF 'thicketlaw08.RulesOthers'. -/
def rulesOthersUptoCard : Claim7 := { stood := { row := rulesOthersUptoRow, standIns := [], harness := (true, "d55ca23eb891e5f45dd8f18dd78fcd65d1d4cf0c31a07b2a028c54fbb2590812"), looks := false }, kinds := [], alts := [], laidByText := true, laidKinds := [.data], laidTests := true, laidLooks := .later }
def RulesOthersUptoCardSaid : Prop := Claim7.holds Tryd.pinned (.plain (OpenSpec.upto rulesOthersSpec)) rulesOthersUptoCard

/-- THE SECOND FORM's CARD OF 'thicketlaw08.RulesOwn'. -/
def rulesOwnUptoCard : Claim7 := { stood := { row := rulesOwnUptoRow, standIns := [], harness := (true, "d55ca23eb891e5f45dd8f18dd78fcd65d1d4cf0c31a07b2a028c54fbb2590812"), looks := false }, kinds := [], alts := [], laidByText := true, laidKinds := [.data], laidTests := true, laidLooks := .later }
def RulesOwnUptoCardSaid : Prop := Claim7.holds Tryd.pinned (.plain (OpenSpec.upto rulesOwnSpec)) rulesOwnUptoCard
end Rows
end Go.Proofs.YtmkanofeencgpaaDoor
