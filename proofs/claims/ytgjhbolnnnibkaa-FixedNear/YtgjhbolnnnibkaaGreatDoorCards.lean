/-
  DERIVED. GIVEN WITH THE SEED: THE CARDS: each row of YtgjhbolnnnibkaaGreatDoorRows.lean that lists a variable, with what it lists TIED to the program's text (the seventh form; the later family's looks); each row that meets fmt, with fmt's text TOLD by the authors' own Lean function (tested against real Go, not proved from fmt's source: count such statements apart). THE CARD IS WHAT COUNTS. Prove the row's statement (the work); the ties are given (YtgjhbolnnnibkaaGreatDoorTie.lean); close each card by the builder's one call (the guide's Derived/Test/ToyasCard.lean, 'card_holds'). Laid BY PROGRAM, IN A SANDBOX (cutbox-door.mjs). By AI agents, Wed Nov 11 2026. No macro, syntax, notation, axiom, sorry.
-/
import Derived.Test.YtgjhbolnnnibkaaGreatDoorRows
import GoSem.ClaimSeven
namespace Go.Proofs.YtgjhbolnnnibkaaGreatDoor
namespace Rows

/-- THE TIED CARD OF 'thicketlaw04.FixedFloats'. -/
def fixedFloatsCard : Claim7 := { stood := { row := fixedFloatsRow, standIns := [], harness := (true, "b0979391ecd3d0c32a59f132455a9828c0eccbe4998d0dbca39580391fa5c67e"), looks := false }, kinds := [], alts := [], laidByText := true, laidKinds := [.data, .data, .pinned], laidTests := true, laidLooks := .later }
def FixedFloatsCardSaid : Prop := Claim7.holds Tryz.pinned (.plain (OpenSpec.ofChange fixedFloatsSpec)) fixedFloatsCard

/-- THE TIED CARD OF 'thicketlaw04.FixedRises'. -/
def fixedRisesCard : Claim7 := { stood := { row := fixedRisesRow, standIns := [], harness := (true, "b0979391ecd3d0c32a59f132455a9828c0eccbe4998d0dbca39580391fa5c67e"), looks := false }, kinds := [], alts := [], laidByText := true, laidKinds := [.data, .data, .data, .data, .pinned], laidTests := true, laidLooks := .later }
def FixedRisesCardSaid : Prop := Claim7.holds Tryz.pinned (.plain (OpenSpec.ofChange fixedRisesSpec)) fixedRisesCard

/-- THE TIED CARD OF 'thicketlaw04.FixedNear'. -/
def fixedNearCard : Claim7 := { stood := { row := fixedNearRow, standIns := [], harness := (true, "b0979391ecd3d0c32a59f132455a9828c0eccbe4998d0dbca39580391fa5c67e"), looks := false }, kinds := [], alts := [], laidByText := true, laidKinds := [.data, .data, .data, .data, .pinned], laidTests := true, laidLooks := .later }
def FixedNearCardSaid : Prop := Claim7.holds Tryz.pinned (.plain (OpenSpec.ofChange fixedNearSpec)) fixedNearCard

/-- THE SECOND FORM's CARD OF 'thicketlaw04.FixedFloats'. -/
def fixedFloatsUptoCard : Claim7 := { stood := { row := fixedFloatsUptoRow, standIns := [], harness := (true, "b0979391ecd3d0c32a59f132455a9828c0eccbe4998d0dbca39580391fa5c67e"), looks := false }, kinds := [], alts := [], laidByText := true, laidKinds := [.data, .data, .pinned], laidTests := true, laidLooks := .later }
def FixedFloatsUptoCardSaid : Prop := Claim7.holds Tryz.pinned (.plain (OpenSpec.upto fixedFloatsSpec)) fixedFloatsUptoCard

/-- THE SECOND FORM's CARD OF 'thicketlaw04.FixedRises'. -/
def fixedRisesUptoCard : Claim7 := { stood := { row := fixedRisesUptoRow, standIns := [], harness := (true, "b0979391ecd3d0c32a59f132455a9828c0eccbe4998d0dbca39580391fa5c67e"), looks := false }, kinds := [], alts := [], laidByText := true, laidKinds := [.data, .data, .data, .data, .pinned], laidTests := true, laidLooks := .later }
def FixedRisesUptoCardSaid : Prop := Claim7.holds Tryz.pinned (.plain (OpenSpec.upto fixedRisesSpec)) fixedRisesUptoCard

/-- THE SECOND FORM's CARD OF 'thicketlaw04.FixedNear'. -/
def fixedNearUptoCard : Claim7 := { stood := { row := fixedNearUptoRow, standIns := [], harness := (true, "b0979391ecd3d0c32a59f132455a9828c0eccbe4998d0dbca39580391fa5c67e"), looks := false }, kinds := [], alts := [], laidByText := true, laidKinds := [.data, .data, .data, .data, .pinned], laidTests := true, laidLooks := .later }
def FixedNearUptoCardSaid : Prop := Claim7.holds Tryz.pinned (.plain (OpenSpec.upto fixedNearSpec)) fixedNearUptoCard
end Rows
end Go.Proofs.YtgjhbolnnnibkaaGreatDoor
