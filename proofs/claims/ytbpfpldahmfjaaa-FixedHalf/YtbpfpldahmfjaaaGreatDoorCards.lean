/-
  DERIVED. GIVEN WITH THE SEED: THE CARDS: each row of YtbpfpldahmfjaaaGreatDoorRows.lean that lists a variable, with what it lists TIED to the program's text (the seventh form; the later family's looks); each row that meets fmt, with fmt's text TOLD by the authors' own Lean function (tested against real Go, not proved from fmt's source: count such statements apart). THE CARD IS WHAT COUNTS. Prove the row's statement (the work); the ties are given (YtbpfpldahmfjaaaGreatDoorTie.lean); close each card by the builder's one call (the guide's Derived/Test/ToyasCard.lean, 'card_holds'). Laid BY PROGRAM, IN A SANDBOX (cutbox-door.mjs). By AI agents, Wed Nov 11 2026. No macro, syntax, notation, axiom, sorry.
-/
import Derived.Test.YtbpfpldahmfjaaaGreatDoorRows
import GoSem.ClaimSeven
namespace Go.Proofs.YtbpfpldahmfjaaaGreatDoor
namespace Rows

/-- THE TIED CARD OF 'thicketlaw04.FixedBack'. -/
def fixedBackCard : Claim7 := { stood := { row := fixedBackRow, standIns := [], harness := (true, "93e150b3c24fad2455a05089e6e3da1a22c1836f0a8ec2986d69fe5a3872c48b"), looks := false }, kinds := [], alts := [], laidByText := true, laidKinds := [.data, .data, .data, .data, .pinned], laidTests := true, laidLooks := .later }
def FixedBackCardSaid : Prop := Claim7.holds Tryz.pinned (.plain (OpenSpec.ofChange fixedBackSpec)) fixedBackCard

/-- THE TIED CARD OF 'thicketlaw04.FixedParts'. -/
def fixedPartsCard : Claim7 := { stood := { row := fixedPartsRow, standIns := [], harness := (true, "93e150b3c24fad2455a05089e6e3da1a22c1836f0a8ec2986d69fe5a3872c48b"), looks := false }, kinds := [], alts := [], laidByText := true, laidKinds := [.data, .data, .data, .data, .pinned], laidTests := true, laidLooks := .later }
def FixedPartsCardSaid : Prop := Claim7.holds Tryz.pinned (.plain (OpenSpec.ofChange fixedPartsSpec)) fixedPartsCard

/-- THE TIED CARD OF 'thicketlaw04.FixedHalf'. -/
def fixedHalfCard : Claim7 := { stood := { row := fixedHalfRow, standIns := [], harness := (true, "93e150b3c24fad2455a05089e6e3da1a22c1836f0a8ec2986d69fe5a3872c48b"), looks := false }, kinds := [], alts := [], laidByText := true, laidKinds := [.data, .data, .data, .data, .pinned], laidTests := true, laidLooks := .later }
def FixedHalfCardSaid : Prop := Claim7.holds Tryz.pinned (.plain (OpenSpec.ofChange fixedHalfSpec)) fixedHalfCard

/-- THE SECOND FORM's CARD OF 'thicketlaw04.FixedBack'. -/
def fixedBackUptoCard : Claim7 := { stood := { row := fixedBackUptoRow, standIns := [], harness := (true, "93e150b3c24fad2455a05089e6e3da1a22c1836f0a8ec2986d69fe5a3872c48b"), looks := false }, kinds := [], alts := [], laidByText := true, laidKinds := [.data, .data, .data, .data, .pinned], laidTests := true, laidLooks := .later }
def FixedBackUptoCardSaid : Prop := Claim7.holds Tryz.pinned (.plain (OpenSpec.upto fixedBackSpec)) fixedBackUptoCard

/-- THE SECOND FORM's CARD OF 'thicketlaw04.FixedParts'. -/
def fixedPartsUptoCard : Claim7 := { stood := { row := fixedPartsUptoRow, standIns := [], harness := (true, "93e150b3c24fad2455a05089e6e3da1a22c1836f0a8ec2986d69fe5a3872c48b"), looks := false }, kinds := [], alts := [], laidByText := true, laidKinds := [.data, .data, .data, .data, .pinned], laidTests := true, laidLooks := .later }
def FixedPartsUptoCardSaid : Prop := Claim7.holds Tryz.pinned (.plain (OpenSpec.upto fixedPartsSpec)) fixedPartsUptoCard

/-- THE SECOND FORM's CARD OF 'thicketlaw04.FixedHalf'. -/
def fixedHalfUptoCard : Claim7 := { stood := { row := fixedHalfUptoRow, standIns := [], harness := (true, "93e150b3c24fad2455a05089e6e3da1a22c1836f0a8ec2986d69fe5a3872c48b"), looks := false }, kinds := [], alts := [], laidByText := true, laidKinds := [.data, .data, .data, .data, .pinned], laidTests := true, laidLooks := .later }
def FixedHalfUptoCardSaid : Prop := Claim7.holds Tryz.pinned (.plain (OpenSpec.upto fixedHalfSpec)) fixedHalfUptoCard
end Rows
end Go.Proofs.YtbpfpldahmfjaaaGreatDoor
