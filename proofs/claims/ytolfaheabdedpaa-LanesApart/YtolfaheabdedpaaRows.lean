/-
  No cell of these rows narrows 'for every input' (looked for: loops, veiled, ifaces, maps, wideKeys, modest, calm, conditions, laid).
  DERIVED. THE GIVEN ROWS OF THIS SEAT. 4 by the template 'for every input the law returns true; each argument reads behind the call as it read before'; 0 by the template 'total and deterministic' (their statements: YtolfaheabdedpaaTotals.lean).
  GIVEN WITH THE SEED: the statements are not yours to turn. If you find one false, say at which input.
  Laid BY PROGRAM, IN A SANDBOX (cutbox-rows.mjs): the forced cells as the released guide's own fill.sh prints them over the translation 2bb0430aa95818b3… (all of the seat's roots in one cut). By AI agents, Wed Nov 11 2026. No macro, syntax, notation, axiom, sorry.
-/
import Derived.Test.YtolfaheabdedpaaChecked
import GoSem.Claim
import GoSem.ClaimJoined
import GoSem.ClaimMapViews
import Derived.JoinedTies
import Derived.KernelRfl
namespace Go.Proofs.Ytolfaheabdedpaa
/- THE CELL 'sum', in the pinned program and in every row, IS THE sha256 OF THE DUMP (.gsa) THAT YtolfaheabdedpaaProg.lean LOADS. Nothing in Lean hashes anything: it is a label: what it is worth is what the hold of that sum in a sandbox is worth. -/
noncomputable def Try.pinned : Pinned := { name := "ytolfaheabdedpaa", sum := "2bb0430aa95818b33a69ac9d62044dfc9daf509838e2f72abc14b7a9c09e2dc2", checked := Try.checked }
namespace Rows
def none {H : Type} : Left H := { results := [], args := [] }

/-- 'thicketlaw18.LanesPacks': WHATEVER THE INPUT: true; the input reads as it did. -/
def lanesPacksSpec : ChangeSpec := { name := "lanesPacks", fn := fun _ => fun
  | [d1, d2, d3, d4] => { results := [.lit (.bool true)], args := [d1, d2, d3, d4] }
  | _ => none }
def lanesPacksRow : OpenClaim := { program := "ytolfaheabdedpaa", sum := "2bb0430aa95818b33a69ac9d62044dfc9daf509838e2f72abc14b7a9c09e2dc2", func := "thicket/thicketlaw18.LanesPacks", spec := "lanesPacks", inPlace := ["math.Float64bits"], unfollowed := true, recurses := true, apart := false }
def LanesPacksSaid : Prop := lanesPacksRow.holds Try.pinned (OpenSpec.ofChange lanesPacksSpec)

/-- ITS FALSE NEIGHBOUR: 'it returns false'. Refute it at one input. -/
def lanesPacksWrong : ChangeSpec := { name := "lanesPacks", fn := fun _ => fun
  | [d1, d2, d3, d4] => { results := [.lit (.bool false)], args := [d1, d2, d3, d4] }
  | _ => none }
def LanesPacksWrongFalsely : Prop := lanesPacksRow.holds Try.pinned (OpenSpec.ofChange lanesPacksWrong)

/-- 'thicketlaw18.LanesBits': WHATEVER THE INPUT: true; the input reads as it did. -/
def lanesBitsSpec : ChangeSpec := { name := "lanesBits", fn := fun _ => fun
  | [d1, d2, d3] => { results := [.lit (.bool true)], args := [d1, d2, d3] }
  | _ => none }
def lanesBitsRow : OpenClaim := { program := "ytolfaheabdedpaa", sum := "2bb0430aa95818b33a69ac9d62044dfc9daf509838e2f72abc14b7a9c09e2dc2", func := "thicket/thicketlaw18.LanesBits", spec := "lanesBits", unfollowed := true, recurses := true, apart := false }
def LanesBitsSaid : Prop := lanesBitsRow.holds Try.pinned (OpenSpec.ofChange lanesBitsSpec)

/-- ITS FALSE NEIGHBOUR: 'it returns false'. Refute it at one input. -/
def lanesBitsWrong : ChangeSpec := { name := "lanesBits", fn := fun _ => fun
  | [d1, d2, d3] => { results := [.lit (.bool false)], args := [d1, d2, d3] }
  | _ => none }
def LanesBitsWrongFalsely : Prop := lanesBitsRow.holds Try.pinned (OpenSpec.ofChange lanesBitsWrong)

/-- 'thicketlaw18.LanesTurned': WHATEVER THE INPUT: true; the input reads as it did. -/
def lanesTurnedSpec : ChangeSpec := { name := "lanesTurned", fn := fun _ => fun
  | [d1, d2] => { results := [.lit (.bool true)], args := [d1, d2] }
  | _ => none }
def lanesTurnedRow : OpenClaim := { program := "ytolfaheabdedpaa", sum := "2bb0430aa95818b33a69ac9d62044dfc9daf509838e2f72abc14b7a9c09e2dc2", func := "thicket/thicketlaw18.LanesTurned", spec := "lanesTurned", inPlace := ["math.Float64bits"], unfollowed := true, recurses := true, apart := false }
def LanesTurnedSaid : Prop := lanesTurnedRow.holds Try.pinned (OpenSpec.ofChange lanesTurnedSpec)

/-- ITS FALSE NEIGHBOUR: 'it returns false'. Refute it at one input. -/
def lanesTurnedWrong : ChangeSpec := { name := "lanesTurned", fn := fun _ => fun
  | [d1, d2] => { results := [.lit (.bool false)], args := [d1, d2] }
  | _ => none }
def LanesTurnedWrongFalsely : Prop := lanesTurnedRow.holds Try.pinned (OpenSpec.ofChange lanesTurnedWrong)

/-- 'thicketlaw18.LanesApart': WHATEVER THE INPUT: true; the input reads as it did. -/
def lanesApartSpec : ChangeSpec := { name := "lanesApart", fn := fun _ => fun
  | [d1, d2, d3, d4] => { results := [.lit (.bool true)], args := [d1, d2, d3, d4] }
  | _ => none }
def lanesApartRow : OpenClaim := { program := "ytolfaheabdedpaa", sum := "2bb0430aa95818b33a69ac9d62044dfc9daf509838e2f72abc14b7a9c09e2dc2", func := "thicket/thicketlaw18.LanesApart", spec := "lanesApart", unfollowed := true, recurses := true, apart := false }
def LanesApartSaid : Prop := lanesApartRow.holds Try.pinned (OpenSpec.ofChange lanesApartSpec)

/-- ITS FALSE NEIGHBOUR: 'it returns false'. Refute it at one input. -/
def lanesApartWrong : ChangeSpec := { name := "lanesApart", fn := fun _ => fun
  | [d1, d2, d3, d4] => { results := [.lit (.bool false)], args := [d1, d2, d3, d4] }
  | _ => none }
def LanesApartWrongFalsely : Prop := lanesApartRow.holds Try.pinned (OpenSpec.ofChange lanesApartWrong)

/- THE SECOND FORM. 'bulk': how many values and letters a reading holds, each counted each time it is reached (what is shared counts as often as it is met; a slice's spare places count too). A statement '..UptoSaid' is the law's where the arguments, and the package variables that the reading takes, are together of bulk at most 1048576: NARROWER than '..Said'. Prove '..Said' where nothing that the law and all that it calls make is longer than what came in: it says more and counts as full. Else prove '..UptoSaid'. A law counts once. -/
mutual
def uptoBulk {H : Type} : DataW H → Nat
  | .lit (.string bytes) => bytes.length + 1
  | .lit _ => 1
  | .nil => 1
  | .ptr d => uptoBulk d + 1
  | .slice elems spare => uptoBulkAll elems + uptoBulkAll spare + 1
  | .agg parts => uptoBulkAll parts + 1
  | .iface _ d => uptoBulk d + 1
  | .map entries => uptoBulkEntries entries + 1
  | .held _ => 1
def uptoBulkAll {H : Type} : List (DataW H) → Nat
  | [] => 0
  | d :: r => uptoBulk d + uptoBulkAll r
def uptoBulkEntries {H : Type} : List (Lit × DataW H) → Nat
  | [] => 0
  | x :: r => uptoBulkEntry x + uptoBulkEntries r
def uptoBulkEntry {H : Type} : Lit × DataW H → Nat
  | (.string bytes, d) => bytes.length + uptoBulk d + 1
  | (_, d) => uptoBulk d + 1
 end
def uptoSmall : (H : Type) → List (DataW H) → Bool := fun _ ds => decide (uptoBulkAll ds ≤ 1048576)
def OpenSpec.upto (s : _root_.Go.ChangeSpec) : _root_.Go.OpenSpec := { _root_.Go.OpenSpec.ofChange s with cond := some uptoSmall }

/-- 'thicketlaw18.LanesPacks', WHERE WHAT IT READS IS OF BULK AT MOST 1048576: true; the input reads as it did. -/
def lanesPacksUptoRow : OpenClaim := { program := "ytolfaheabdedpaa", sum := "2bb0430aa95818b33a69ac9d62044dfc9daf509838e2f72abc14b7a9c09e2dc2", func := "thicket/thicketlaw18.LanesPacks", spec := "lanesPacks", inPlace := ["math.Float64bits"], unfollowed := true, recurses := true, apart := false, narrowed := true }
def LanesPacksUptoSaid : Prop := lanesPacksUptoRow.holds Try.pinned (OpenSpec.upto lanesPacksSpec)

/-- 'thicketlaw18.LanesBits', WHERE WHAT IT READS IS OF BULK AT MOST 1048576: true; the input reads as it did. -/
def lanesBitsUptoRow : OpenClaim := { program := "ytolfaheabdedpaa", sum := "2bb0430aa95818b33a69ac9d62044dfc9daf509838e2f72abc14b7a9c09e2dc2", func := "thicket/thicketlaw18.LanesBits", spec := "lanesBits", unfollowed := true, recurses := true, apart := false, narrowed := true }
def LanesBitsUptoSaid : Prop := lanesBitsUptoRow.holds Try.pinned (OpenSpec.upto lanesBitsSpec)

/-- 'thicketlaw18.LanesTurned', WHERE WHAT IT READS IS OF BULK AT MOST 1048576: true; the input reads as it did. -/
def lanesTurnedUptoRow : OpenClaim := { program := "ytolfaheabdedpaa", sum := "2bb0430aa95818b33a69ac9d62044dfc9daf509838e2f72abc14b7a9c09e2dc2", func := "thicket/thicketlaw18.LanesTurned", spec := "lanesTurned", inPlace := ["math.Float64bits"], unfollowed := true, recurses := true, apart := false, narrowed := true }
def LanesTurnedUptoSaid : Prop := lanesTurnedUptoRow.holds Try.pinned (OpenSpec.upto lanesTurnedSpec)

/-- 'thicketlaw18.LanesApart', WHERE WHAT IT READS IS OF BULK AT MOST 1048576: true; the input reads as it did. -/
def lanesApartUptoRow : OpenClaim := { program := "ytolfaheabdedpaa", sum := "2bb0430aa95818b33a69ac9d62044dfc9daf509838e2f72abc14b7a9c09e2dc2", func := "thicket/thicketlaw18.LanesApart", spec := "lanesApart", unfollowed := true, recurses := true, apart := false, narrowed := true }
def LanesApartUptoSaid : Prop := lanesApartUptoRow.holds Try.pinned (OpenSpec.upto lanesApartSpec)

end Rows
end Go.Proofs.Ytolfaheabdedpaa
