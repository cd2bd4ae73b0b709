/-
  DERIVED. GIVEN WITH THE SEED: THE CARDS: each row of YtckceokgeainlaaDoorRows.lean that lists a variable, with what it lists TIED to the program's text (the seventh form; the later family's looks); each row that meets fmt, with fmt's text TOLD by the authors' own Lean function (tested against real Go, not proved from fmt's source: count such statements apart). THE CARD IS WHAT COUNTS. Prove the row's statement (the work); the ties are given (YtckceokgeainlaaDoorTie.lean); close each card by the builder's one call (the guide's Derived/Test/ToyasCard.lean, 'card_holds'). Laid BY PROGRAM, IN A SANDBOX (cutbox-door.mjs). By AI agents, Wed Nov 11 2026. No macro, syntax, notation, axiom, sorry.
-/
import Derived.Test.YtckceokgeainlaaDoorRows
import GoSem.ClaimSeven
namespace Go.Proofs.YtckceokgeainlaaDoor
namespace Rows

/-- THE TIED CARD OF 'thicketlaw08.RulesCheck'. -/
def rulesCheckCard : Claim7 := { stood := { row := rulesCheckRow, standIns := [], harness := (true, "12aa9f6506c5f14779b6f9d9a07e82dee100f9dc55b0486822c69ae717fec57e"), looks := false }, kinds := [], alts := [], laidByText := true, laidKinds := [.data], laidTests := true, laidLooks := .later }
def RulesCheckCardSaid : Prop := Claim7.holds Tryd.pinned (.plain (OpenSpec.ofChange rulesCheckSpec)) rulesCheckCard

/-- THE TIED CARD OF 'thicketlaw08.RulesRooms'. -/
def rulesRoomsCard : Claim7 := { stood := { row := rulesRoomsRow, standIns := [], harness := (true, "12aa9f6506c5f14779b6f9d9a07e82dee100f9dc55b0486822c69ae717fec57e"), looks := false }, kinds := [], alts := [], laidByText := true, laidKinds := [.data], laidTests := true, laidLooks := .later }
def RulesRoomsCardSaid : Prop := Claim7.holds Tryd.pinned (.plain (OpenSpec.ofChange rulesRoomsSpec)) rulesRoomsCard

/-- THE TIED CARD OF 'thicketlaw08.RulesSays'. -/
def rulesSaysCard : Claim7 := { stood := { row := rulesSaysRow, standIns := [], harness := (true, "12aa9f6506c5f14779b6f9d9a07e82dee100f9dc55b0486822c69ae717fec57e"), looks := false }, kinds := [], alts := [], laidByText := true, laidKinds := [.data, .data, .data], laidTests := true, laidLooks := .later }
def RulesSaysCardSaid : Prop := Claim7.holds Tryd.pinned (.plain (OpenSpec.ofChange rulesSaysSpec)) rulesSaysCard

/-- THE TIED CARD OF 'thicketlaw08.RulesWhole'. -/
def rulesWholeCard : Claim7 := { stood := { row := rulesWholeRow, standIns := [], harness := (true, "12aa9f6506c5f14779b6f9d9a07e82dee100f9dc55b0486822c69ae717fec57e"), looks := false }, kinds := [], alts := [], laidByText := true, laidKinds := [.data], laidTests := true, laidLooks := .later }
def RulesWholeCardSaid : Prop := Claim7.holds Tryd.pinned (.plain (OpenSpec.ofChange rulesWholeSpec)) rulesWholeCard

/-- THE TIED CARD OF 'thicketlaw08.RulesWraps'. -/
def rulesWrapsCard : Claim7 := { stood := { row := rulesWrapsRow, standIns := [], harness := (true, "12aa9f6506c5f14779b6f9d9a07e82dee100f9dc55b0486822c69ae717fec57e"), looks := false }, kinds := [], alts := [], laidByText := true, laidKinds := [.data], laidTests := true, laidLooks := .later }
def RulesWrapsCardSaid : Prop := Claim7.holds Tryd.pinned (.plain (OpenSpec.ofChange rulesWrapsSpec)) rulesWrapsCard

/-- THE TIED CARD OF 'thicketlaw08.RulesLimits'. -/
def rulesLimitsCard : Claim7 := { stood := { row := rulesLimitsRow, standIns := [], harness := (true, "12aa9f6506c5f14779b6f9d9a07e82dee100f9dc55b0486822c69ae717fec57e"), looks := false }, kinds := [], alts := [], laidByText := true, laidKinds := [.data], laidTests := true, laidLooks := .later }
def RulesLimitsCardSaid : Prop := Claim7.holds Tryd.pinned (.plain (OpenSpec.ofChange rulesLimitsSpec)) rulesLimitsCard

/-- THE TIED CARD OF 'thicketlaw08.RulesOthers'. -/
def rulesOthersCard : Claim7 := { stood := { row := rulesOthersRow, standIns := [], harness := (true, "12aa9f6506c5f14779b6f9d9a07e82dee100f9dc55b0486822c69ae717fec57e"), looks := false }, kinds := [], alts := [], laidByText := true, laidKinds := [.data], laidTests := true, laidLooks := .later }
def RulesOthersCardSaid : Prop := Claim7.holds Tryd.pinned (.plain (OpenSpec.ofChange rulesOthersSpec)) rulesOthersCard

/-- THE TIED CARD OF 'thicketlaw08.RulesOwn'. -/
def rulesOwnCard : Claim7 := { stood := { row := rulesOwnRow, standIns := [], harness := (true, "12aa9f6506c5f14779b6f9d9a07e82dee100f9dc55b0486822c69ae717fec57e"), looks := false }, kinds := [], alts := [], laidByText := true, laidKinds := [.data], laidTests := true, laidLooks := .later }
def RulesOwnCardSaid : Prop := Claim7.holds Tryd.pinned (.plain (OpenSpec.ofChange rulesOwnSpec)) rulesOwnCard

/-- THE SECOND FORM's CARD OF 'thicketlaw08.RulesCheck'. -/
def rulesCheckUptoCard : Claim7 := { stood := { row := rulesCheckUptoRow, standIns := [], harness := (true, "12aa9f6506c5f14779b6f9d9a07e82dee100f9dc55b0486822c69ae717fec57e"), looks := false }, kinds := [], alts := [], laidByText := true, laidKinds := [.data], laidTests := true, laidLooks := .later }
def RulesCheckUptoCardSaid : Prop := Claim7.holds Tryd.pinned (.plain (OpenSpec.upto rulesCheckSpec)) rulesCheckUptoCard

/-- THE SECOND FORM's CARD OF 'thicketlaw08.RulesRooms'. -/
def rulesRoomsUptoCard : Claim7 := { stood := { row := rulesRoomsUptoRow, standIns := [], harness := (true, "12aa9f6506c5f14779b6f9d9a07e82dee100f9dc55b0486822c69ae717fec57e"), looks := false }, kinds := [], alts := [], laidByText := true, laidKinds := [.data], laidTests := true, laidLooks := .later }
def RulesRoomsUptoCardSaid : Prop := Claim7.holds Tryd.pinned (.plain (OpenSpec.upto rulesRoomsSpec)) rulesRoomsUptoCard

/-- THE SECOND FORM's CARD OF 'thicketlaw08.RulesSays'. -/
def rulesSaysUptoCard : Claim7 := { stood := { row := rulesSaysUptoRow, standIns := [], harness := (true, "12aa9f6506c5f14779b6f9d9a07e82dee100f9dc55b0486822c69ae717fec57e"), looks := false }, kinds := [], alts := [], laidByText := true, laidKinds := [.data, .data, .data], laidTests := true, laidLooks := .later }
def RulesSaysUptoCardSaid : Prop := Claim7.holds Tryd.pinned (.plain (OpenSpec.upto rulesSaysSpec)) rulesSaysUptoCard

/-- THE SECOND FORM's CARD OF 'thicketlaw08.RulesWhole'. -/
def rulesWholeUptoCard : Claim7 := { stood := { row := rulesWholeUptoRow, standIns := [], harness := (true, "12aa9f6506c5f14779b6f9d9a07e82dee100f9dc55b0486822c69ae717fec57e"), looks := false }, kinds := [], alts := [], laidByText := true, laidKinds := [.data], laidTests := true, laidLooks := .later }
def RulesWholeUptoCardSaid : Prop := Claim7.holds Tryd.pinned (.plain (OpenSpec.upto rulesWholeSpec)) rulesWholeUptoCard

/-- THE SECOND FORM's CARD OF 'thicketlaw08.RulesWraps'. -/
def rulesWrapsUptoCard : Claim7 := { stood := { row := rulesWrapsUptoRow, standIns := [], harness := (true, "12aa9f6506c5f14779b6f9d9a07e82dee100f9dc55b0486822c69ae717fec57e"), looks := false }, kinds := [], alts := [], laidByText := true, laidKinds := [.data], laidTests := true, laidLooks := .later }
def RulesWrapsUptoCardSaid : Prop := Claim7.holds Tryd.pinned (.plain (OpenSpec.upto rulesWrapsSpec)) rulesWrapsUptoCard

/-- THE SECOND FORM's CARD OF 'thicketlaw08.RulesLimits'. -/
def rulesLimitsUptoCard : Claim7 := { stood := { row := rulesLimitsUptoRow, standIns := [], harness := (true, "12aa9f6506c5f14779b6f9d9a07e82dee100f9dc55b0486822c69ae717fec57e"), looks := false }, kinds := [], alts := [], laidByText := true, laidKinds := [.data], laidTests := true, laidLooks := .later }
def RulesLimitsUptoCardSaid : Prop := Claim7.holds Tryd.pinned (.plain (OpenSpec.upto rulesLimitsSpec)) rulesLimitsUptoCard

/-- THE SECOND FORM's CARD OF 'thicketlaw08.RulesOthers'. -/
def rulesOthersUptoCard : Claim7 := { stood := { row := rulesOthersUptoRow, standIns := [], harness := (true, "12aa9f6506c5f14779b6f9d9a07e82dee100f9dc55b0486822c69ae717fec57e"), looks := false }, kinds := [], alts := [], laidByText := true, laidKinds := [.data], laidTests := true, laidLooks := .later }
def RulesOthersUptoCardSaid : Prop := Claim7.holds Tryd.pinned (.plain (OpenSpec.upto rulesOthersSpec)) rulesOthersUptoCard

/-- THE SECOND FORM's CARD OF 'thicketlaw08.RulesOwn'. -/
def rulesOwnUptoCard : Claim7 := { stood := { row := rulesOwnUptoRow, standIns := [], harness := (true, "12aa9f6506c5f14779b6f9d9a07e82dee100f9dc55b0486822c69ae717fec57e"), looks := false }, kinds := [], alts := [], laidByText := true, laidKinds := [.data], laidTests := true, laidLooks := .later }
def RulesOwnUptoCardSaid : Prop := Claim7.holds Tryd.pinned (.plain (OpenSpec.upto rulesOwnSpec)) rulesOwnUptoCard
end Rows
end Go.Proofs.YtckceokgeainlaaDoor
