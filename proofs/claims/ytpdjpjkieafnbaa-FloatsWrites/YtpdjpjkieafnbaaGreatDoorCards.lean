/-
  DERIVED. GIVEN WITH THE SEED: THE CARDS: each row of YtpdjpjkieafnbaaGreatDoorRows.lean that lists a variable, with what it lists TIED to the program's text (the seventh form; the later family's looks); each row that meets fmt, with fmt's text TOLD by the authors' own Lean function (tested against real Go, not proved from fmt's source: count such statements apart). THE CARD IS WHAT COUNTS. Prove the row's statement (the work); the ties are given (YtpdjpjkieafnbaaGreatDoorTie.lean); close each card by the builder's one call (the guide's Derived/Test/ToyasCard.lean, 'card_holds'). Laid BY PROGRAM, IN A SANDBOX (cutbox-door.mjs). By AI agents, Wed Nov 11 2026. No macro, syntax, notation, axiom, sorry.
-/
import Derived.Test.YtpdjpjkieafnbaaGreatDoorRows
import GoSem.ClaimSeven
namespace Go.Proofs.YtpdjpjkieafnbaaGreatDoor
namespace Rows

/-- THE TIED CARD OF 'thicketlaw02.FloatsReads'. -/
def floatsReadsCard : Claim7 := { stood := { row := floatsReadsRow, standIns := [], harness := (true, "a4005a34abf07387b45e0b340df0f1b897a08bb0c46907037c2216c43cc5c453"), looks := false }, kinds := [], alts := [], laidByText := true, laidKinds := [.data, .pinned], laidTests := true, laidLooks := .later }
def FloatsReadsCardSaid : Prop := Claim7.holds Tryz.pinned (.plain (OpenSpec.ofChange floatsReadsSpec)) floatsReadsCard

/-- THE TIED CARD OF 'thicketlaw02.FloatsWrites'. -/
def floatsWritesCard : Claim7 := { stood := { row := floatsWritesRow, standIns := [], harness := (true, "a4005a34abf07387b45e0b340df0f1b897a08bb0c46907037c2216c43cc5c453"), looks := false }, kinds := [], alts := [], laidByText := true, laidKinds := [.data, .data, .data, .data, .pinned], laidTests := true, laidLooks := .later }
def FloatsWritesCardSaid : Prop := Claim7.holds Tryz.pinned (.plain (OpenSpec.ofChange floatsWritesSpec)) floatsWritesCard

/-- THE TIED CARD OF 'thicketlaw02.FloatsBack'. -/
def floatsBackCard : Claim7 := { stood := { row := floatsBackRow, standIns := [], harness := (true, "a4005a34abf07387b45e0b340df0f1b897a08bb0c46907037c2216c43cc5c453"), looks := false }, kinds := [], alts := [], laidByText := true, laidKinds := [.data, .data, .data, .data, .pinned], laidTests := true, laidLooks := .later }
def FloatsBackCardSaid : Prop := Claim7.holds Tryz.pinned (.plain (OpenSpec.ofChange floatsBackSpec)) floatsBackCard

/-- THE TIED CARD OF 'thicketlaw02.FloatsRises'. -/
def floatsRisesCard : Claim7 := { stood := { row := floatsRisesRow, standIns := [], harness := (true, "a4005a34abf07387b45e0b340df0f1b897a08bb0c46907037c2216c43cc5c453"), looks := false }, kinds := [], alts := [], laidByText := true, laidKinds := [.data, .data, .data, .data, .pinned], laidTests := true, laidLooks := .later }
def FloatsRisesCardSaid : Prop := Claim7.holds Tryz.pinned (.plain (OpenSpec.ofChange floatsRisesSpec)) floatsRisesCard

/-- THE TIED CARD OF 'thicketlaw02.FloatsSame'. -/
def floatsSameCard : Claim7 := { stood := { row := floatsSameRow, standIns := [], harness := (true, "a4005a34abf07387b45e0b340df0f1b897a08bb0c46907037c2216c43cc5c453"), looks := false }, kinds := [], alts := [], laidByText := true, laidKinds := [.data, .data, .data, .data, .pinned], laidTests := true, laidLooks := .later }
def FloatsSameCardSaid : Prop := Claim7.holds Tryz.pinned (.plain (OpenSpec.ofChange floatsSameSpec)) floatsSameCard

/-- THE TIED CARD OF 'thicketlaw02.FloatsShort'. -/
def floatsShortCard : Claim7 := { stood := { row := floatsShortRow, standIns := [], harness := (true, "a4005a34abf07387b45e0b340df0f1b897a08bb0c46907037c2216c43cc5c453"), looks := false }, kinds := [], alts := [], laidByText := true, laidKinds := [.data, .data, .data, .data, .pinned], laidTests := true, laidLooks := .later }
def FloatsShortCardSaid : Prop := Claim7.holds Tryz.pinned (.plain (OpenSpec.ofChange floatsShortSpec)) floatsShortCard

/-- THE TIED CARD OF 'thicketlaw02.FloatsWhole'. -/
def floatsWholeCard : Claim7 := { stood := { row := floatsWholeRow, standIns := [], harness := (true, "a4005a34abf07387b45e0b340df0f1b897a08bb0c46907037c2216c43cc5c453"), looks := false }, kinds := [], alts := [], laidByText := true, laidKinds := [.data, .data, .data, .data, .pinned], laidTests := true, laidLooks := .later }
def FloatsWholeCardSaid : Prop := Claim7.holds Tryz.pinned (.plain (OpenSpec.ofChange floatsWholeSpec)) floatsWholeCard

/-- THE TIED CARD OF 'thicketlaw02.FloatsNear'. -/
def floatsNearCard : Claim7 := { stood := { row := floatsNearRow, standIns := [], harness := (true, "a4005a34abf07387b45e0b340df0f1b897a08bb0c46907037c2216c43cc5c453"), looks := false }, kinds := [], alts := [], laidByText := true, laidKinds := [.data, .data, .data, .data, .pinned], laidTests := true, laidLooks := .later }
def FloatsNearCardSaid : Prop := Claim7.holds Tryz.pinned (.plain (OpenSpec.ofChange floatsNearSpec)) floatsNearCard

/-- THE TIED CARD OF 'thicketlaw02.FloatsOwn'. -/
def floatsOwnCard : Claim7 := { stood := { row := floatsOwnRow, standIns := [], harness := (true, "a4005a34abf07387b45e0b340df0f1b897a08bb0c46907037c2216c43cc5c453"), looks := false }, kinds := [], alts := [], laidByText := true, laidKinds := [.data, .data, .data, .data, .pinned], laidTests := true, laidLooks := .later }
def FloatsOwnCardSaid : Prop := Claim7.holds Tryz.pinned (.plain (OpenSpec.ofChange floatsOwnSpec)) floatsOwnCard

/-- THE SECOND FORM's CARD OF 'thicketlaw02.FloatsReads'. -/
def floatsReadsUptoCard : Claim7 := { stood := { row := floatsReadsUptoRow, standIns := [], harness := (true, "a4005a34abf07387b45e0b340df0f1b897a08bb0c46907037c2216c43cc5c453"), looks := false }, kinds := [], alts := [], laidByText := true, laidKinds := [.data, .pinned], laidTests := true, laidLooks := .later }
def FloatsReadsUptoCardSaid : Prop := Claim7.holds Tryz.pinned (.plain (OpenSpec.upto floatsReadsSpec)) floatsReadsUptoCard

/-- THE SECOND FORM's CARD OF 'thicketlaw02.FloatsWrites'. -/
def floatsWritesUptoCard : Claim7 := { stood := { row := floatsWritesUptoRow, standIns := [], harness := (true, "a4005a34abf07387b45e0b340df0f1b897a08bb0c46907037c2216c43cc5c453"), looks := false }, kinds := [], alts := [], laidByText := true, laidKinds := [.data, .data, .data, .data, .pinned], laidTests := true, laidLooks := .later }
def FloatsWritesUptoCardSaid : Prop := Claim7.holds Tryz.pinned (.plain (OpenSpec.upto floatsWritesSpec)) floatsWritesUptoCard

/-- THE SECOND FORM's CARD OF 'thicketlaw02.FloatsBack'. -/
def floatsBackUptoCard : Claim7 := { stood := { row := floatsBackUptoRow, standIns := [], harness := (true, "a4005a34abf07387b45e0b340df0f1b897a08bb0c46907037c2216c43cc5c453"), looks := false }, kinds := [], alts := [], laidByText := true, laidKinds := [.data, .data, .data, .data, .pinned], laidTests := true, laidLooks := .later }
def FloatsBackUptoCardSaid : Prop := Claim7.holds Tryz.pinned (.plain (OpenSpec.upto floatsBackSpec)) floatsBackUptoCard

/-- THE SECOND FORM's CARD OF 'thicketlaw02.FloatsRises'. -/
def floatsRisesUptoCard : Claim7 := { stood := { row := floatsRisesUptoRow, standIns := [], harness := (true, "a4005a34abf07387b45e0b340df0f1b897a08bb0c46907037c2216c43cc5c453"), looks := false }, kinds := [], alts := [], laidByText := true, laidKinds := [.data, .data, .data, .data, .pinned], laidTests := true, laidLooks := .later }
def FloatsRisesUptoCardSaid : Prop := Claim7.holds Tryz.pinned (.plain (OpenSpec.upto floatsRisesSpec)) floatsRisesUptoCard

/-- THE SECOND FORM's CARD OF 'thicketlaw02.FloatsSame'. -/
def floatsSameUptoCard : Claim7 := { stood := { row := floatsSameUptoRow, standIns := [], harness := (true, "a4005a34abf07387b45e0b340df0f1b897a08bb0c46907037c2216c43cc5c453"), looks := false }, kinds := [], alts := [], laidByText := true, laidKinds := [.data, .data, .data, .data, .pinned], laidTests := true, laidLooks := .later }
def FloatsSameUptoCardSaid : Prop := Claim7.holds Tryz.pinned (.plain (OpenSpec.upto floatsSameSpec)) floatsSameUptoCard

/-- THE SECOND FORM's CARD OF 'thicketlaw02.FloatsShort'. -/
def floatsShortUptoCard : Claim7 := { stood := { row := floatsShortUptoRow, standIns := [], harness := (true, "a4005a34abf07387b45e0b340df0f1b897a08bb0c46907037c2216c43cc5c453"), looks := false }, kinds := [], alts := [], laidByText := true, laidKinds := [.data, .data, .data, .data, .pinned], laidTests := true, laidLooks := .later }
def FloatsShortUptoCardSaid : Prop := Claim7.holds Tryz.pinned (.plain (OpenSpec.upto floatsShortSpec)) floatsShortUptoCard

/-- THE SECOND FORM's CARD OF 'thicketlaw02.FloatsWhole'. -/
def floatsWholeUptoCard : Claim7 := { stood := { row := floatsWholeUptoRow, standIns := [], harness := (true, "a4005a34abf07387b45e0b340df0f1b897a08bb0c46907037c2216c43cc5c453"), looks := false }, kinds := [], alts := [], laidByText := true, laidKinds := [.data, .data, .data, .data, .pinned], laidTests := true, laidLooks := .later }
def FloatsWholeUptoCardSaid : Prop := Claim7.holds Tryz.pinned (.plain (OpenSpec.upto floatsWholeSpec)) floatsWholeUptoCard

/-- THE SECOND FORM's CARD OF 'thicketlaw02.FloatsNear'. -/
def floatsNearUptoCard : Claim7 := { stood := { row := floatsNearUptoRow, standIns := [], harness := (true, "a4005a34abf07387b45e0b340df0f1b897a08bb0c46907037c2216c43cc5c453"), looks := false }, kinds := [], alts := [], laidByText := true, laidKinds := [.data, .data, .data, .data, .pinned], laidTests := true, laidLooks := .later }
def FloatsNearUptoCardSaid : Prop := Claim7.holds Tryz.pinned (.plain (OpenSpec.upto floatsNearSpec)) floatsNearUptoCard

/-- THE SECOND FORM's CARD OF 'thicketlaw02.FloatsOwn'. -/
def floatsOwnUptoCard : Claim7 := { stood := { row := floatsOwnUptoRow, standIns := [], harness := (true, "a4005a34abf07387b45e0b340df0f1b897a08bb0c46907037c2216c43cc5c453"), looks := false }, kinds := [], alts := [], laidByText := true, laidKinds := [.data, .data, .data, .data, .pinned], laidTests := true, laidLooks := .later }
def FloatsOwnUptoCardSaid : Prop := Claim7.holds Tryz.pinned (.plain (OpenSpec.upto floatsOwnSpec)) floatsOwnUptoCard
end Rows
end Go.Proofs.YtpdjpjkieafnbaaGreatDoor
