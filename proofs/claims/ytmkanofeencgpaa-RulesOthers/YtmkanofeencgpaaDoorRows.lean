/-
  NARROWER THAN 'FOR EVERY INPUT', by the rows' own cells (each row's printed sentence says how): RulesCheck: laid · RulesRooms: laid · RulesWhole: laid · RulesWraps: laid · RulesOthers: laid · RulesOwn: laid.
  DERIVED. THE GIVEN ROWS OF THIS SEAT. 6 by the template 'for every input the law returns true; each argument reads behind the call as it read before'; 0 by the template 'total and deterministic' (their statements: YtmkanofeencgpaaDoorTotals.lean).
  GIVEN WITH THE SEED: the statements are not yours to turn. If you find one false, say at which input.
  Laid BY PROGRAM, IN A SANDBOX (cutbox-rows.mjs): the forced cells as the released guide's own fill.sh prints them over the translation 8914d2e70d17ff16… (all of the seat's roots in one cut). By AI agents, Wed Nov 11 2026. No macro, syntax, notation, axiom, sorry.
-/
import Derived.Test.YtmkanofeencgpaaDoorChecked
import GoSem.Claim
import GoSem.ClaimJoined
import GoSem.ClaimMapViews
import Derived.JoinedTies
import Derived.KernelRfl
namespace Go.Proofs.YtmkanofeencgpaaDoor
/- THE CELL 'sum', in the pinned program and in every row, IS THE sha256 OF THE DUMP (.gsa) THAT YtmkanofeencgpaaDoorProg.lean LOADS. Nothing in Lean hashes anything: it is a label: what it is worth is what the hold of that sum in a sandbox is worth. -/
noncomputable def Tryd.pinned : Pinned := { name := "ytmkanofeencgpaadoor", sum := "8914d2e70d17ff16bf522da8c7a24ab85da157a0878745ae8f9dfa24d531ad66", checked := Tryd.checked }
namespace Rows
def none {H : Type} : Left H := { results := [], args := [] }

/- WHAT THE LISTED PACKAGE-LEVEL VARIABLES READ AS WHEN THE CALL BEGINS. Each datum BY PROGRAM (the guide's laid-datum.mjs) off the statement by which the dump's own 'gosem.cut.vars' lays the variable. In a bare row this is a premise. The card (YtmkanofeencgpaaDoorCards.lean) ties it to the program's text. -/
def laid_thicket_scan_kinds {H : Type} : DataW H := .agg [.lit (.int .u8 0), .lit (.int .u8 0), .lit (.int .u8 0), .lit (.int .u8 0), .lit (.int .u8 0), .lit (.int .u8 0), .lit (.int .u8 0), .lit (.int .u8 0), .lit (.int .u8 0), .lit (.int .u8 1), .lit (.int .u8 0), .lit (.int .u8 0), .lit (.int .u8 0), .lit (.int .u8 0), .lit (.int .u8 0), .lit (.int .u8 0), .lit (.int .u8 0), .lit (.int .u8 0), .lit (.int .u8 0), .lit (.int .u8 0), .lit (.int .u8 0), .lit (.int .u8 0), .lit (.int .u8 0), .lit (.int .u8 0), .lit (.int .u8 0), .lit (.int .u8 0), .lit (.int .u8 0), .lit (.int .u8 0), .lit (.int .u8 0), .lit (.int .u8 0), .lit (.int .u8 0), .lit (.int .u8 0), .lit (.int .u8 1), .lit (.int .u8 7), .lit (.int .u8 8), .lit (.int .u8 9), .lit (.int .u8 0), .lit (.int .u8 0), .lit (.int .u8 0), .lit (.int .u8 0), .lit (.int .u8 6), .lit (.int .u8 6), .lit (.int .u8 0), .lit (.int .u8 5), .lit (.int .u8 6), .lit (.int .u8 4), .lit (.int .u8 4), .lit (.int .u8 0), .lit (.int .u8 3), .lit (.int .u8 3), .lit (.int .u8 3), .lit (.int .u8 3), .lit (.int .u8 3), .lit (.int .u8 3), .lit (.int .u8 3), .lit (.int .u8 3), .lit (.int .u8 3), .lit (.int .u8 3), .lit (.int .u8 6), .lit (.int .u8 6), .lit (.int .u8 6), .lit (.int .u8 6), .lit (.int .u8 6), .lit (.int .u8 0), .lit (.int .u8 0), .lit (.int .u8 2), .lit (.int .u8 2), .lit (.int .u8 2), .lit (.int .u8 2), .lit (.int .u8 2), .lit (.int .u8 2), .lit (.int .u8 2), .lit (.int .u8 2), .lit (.int .u8 2), .lit (.int .u8 2), .lit (.int .u8 2), .lit (.int .u8 2), .lit (.int .u8 2), .lit (.int .u8 2), .lit (.int .u8 2), .lit (.int .u8 2), .lit (.int .u8 2), .lit (.int .u8 2), .lit (.int .u8 2), .lit (.int .u8 2), .lit (.int .u8 2), .lit (.int .u8 2), .lit (.int .u8 2), .lit (.int .u8 2), .lit (.int .u8 2), .lit (.int .u8 2), .lit (.int .u8 6), .lit (.int .u8 0), .lit (.int .u8 6), .lit (.int .u8 0), .lit (.int .u8 2), .lit (.int .u8 0), .lit (.int .u8 2), .lit (.int .u8 2), .lit (.int .u8 2), .lit (.int .u8 2), .lit (.int .u8 2), .lit (.int .u8 2), .lit (.int .u8 2), .lit (.int .u8 2), .lit (.int .u8 2), .lit (.int .u8 2), .lit (.int .u8 2), .lit (.int .u8 2), .lit (.int .u8 2), .lit (.int .u8 2), .lit (.int .u8 2), .lit (.int .u8 2), .lit (.int .u8 2), .lit (.int .u8 2), .lit (.int .u8 2), .lit (.int .u8 2), .lit (.int .u8 2), .lit (.int .u8 2), .lit (.int .u8 2), .lit (.int .u8 2), .lit (.int .u8 2), .lit (.int .u8 2), .lit (.int .u8 6), .lit (.int .u8 6), .lit (.int .u8 6), .lit (.int .u8 0), .lit (.int .u8 0)]

/-- 'thicketlaw08.RulesCheck': WHATEVER THE INPUT: true; the input reads as it did. -/
def rulesCheckSpec : ChangeSpec := { name := "rulesCheck", fn := fun _ => fun
  | [d] => { results := [.lit (.bool true)], args := [d] }
  | _ => none }
def rulesCheckRow : OpenClaim := { program := "ytmkanofeencgpaadoor", sum := "8914d2e70d17ff16bf522da8c7a24ab85da157a0878745ae8f9dfa24d531ad66", func := "thicket/thicketlaw08.RulesCheck", spec := "rulesCheck", inPlace := ["math.Float64bits"], unfollowed := true, recurses := true, named := ["thicket/scan.kinds"], apart := false, laid := [("thicket/scan.kinds", laid_thicket_scan_kinds)] }
def RulesCheckSaid : Prop := rulesCheckRow.holds Tryd.pinned (OpenSpec.ofChange rulesCheckSpec)

/-- ITS FALSE NEIGHBOUR: 'it returns false'. Refute it at one input. -/
def rulesCheckWrong : ChangeSpec := { name := "rulesCheck", fn := fun _ => fun
  | [d] => { results := [.lit (.bool false)], args := [d] }
  | _ => none }
def RulesCheckWrongFalsely : Prop := rulesCheckRow.holds Tryd.pinned (OpenSpec.ofChange rulesCheckWrong)

/-- 'thicketlaw08.RulesRooms': WHATEVER THE INPUT: true; the input reads as it did. -/
def rulesRoomsSpec : ChangeSpec := { name := "rulesRooms", fn := fun _ => fun
  | [d1, d2] => { results := [.lit (.bool true)], args := [d1, d2] }
  | _ => none }
def rulesRoomsRow : OpenClaim := { program := "ytmkanofeencgpaadoor", sum := "8914d2e70d17ff16bf522da8c7a24ab85da157a0878745ae8f9dfa24d531ad66", func := "thicket/thicketlaw08.RulesRooms", spec := "rulesRooms", inPlace := ["math.Float64bits"], unfollowed := true, recurses := true, named := ["thicket/scan.kinds"], apart := false, laid := [("thicket/scan.kinds", laid_thicket_scan_kinds)] }
def RulesRoomsSaid : Prop := rulesRoomsRow.holds Tryd.pinned (OpenSpec.ofChange rulesRoomsSpec)

/-- ITS FALSE NEIGHBOUR: 'it returns false'. Refute it at one input. -/
def rulesRoomsWrong : ChangeSpec := { name := "rulesRooms", fn := fun _ => fun
  | [d1, d2] => { results := [.lit (.bool false)], args := [d1, d2] }
  | _ => none }
def RulesRoomsWrongFalsely : Prop := rulesRoomsRow.holds Tryd.pinned (OpenSpec.ofChange rulesRoomsWrong)

/-- 'thicketlaw08.RulesWhole': WHATEVER THE INPUT: true; the input reads as it did. -/
def rulesWholeSpec : ChangeSpec := { name := "rulesWhole", fn := fun _ => fun
  | [d1, d2] => { results := [.lit (.bool true)], args := [d1, d2] }
  | _ => none }
def rulesWholeRow : OpenClaim := { program := "ytmkanofeencgpaadoor", sum := "8914d2e70d17ff16bf522da8c7a24ab85da157a0878745ae8f9dfa24d531ad66", func := "thicket/thicketlaw08.RulesWhole", spec := "rulesWhole", inPlace := ["math.Float64bits"], unfollowed := true, recurses := true, named := ["thicket/scan.kinds"], apart := false, laid := [("thicket/scan.kinds", laid_thicket_scan_kinds)] }
def RulesWholeSaid : Prop := rulesWholeRow.holds Tryd.pinned (OpenSpec.ofChange rulesWholeSpec)

/-- ITS FALSE NEIGHBOUR: 'it returns false'. Refute it at one input. -/
def rulesWholeWrong : ChangeSpec := { name := "rulesWhole", fn := fun _ => fun
  | [d1, d2] => { results := [.lit (.bool false)], args := [d1, d2] }
  | _ => none }
def RulesWholeWrongFalsely : Prop := rulesWholeRow.holds Tryd.pinned (OpenSpec.ofChange rulesWholeWrong)

/-- 'thicketlaw08.RulesWraps': WHATEVER THE INPUT: true; the input reads as it did. -/
def rulesWrapsSpec : ChangeSpec := { name := "rulesWraps", fn := fun _ => fun
  | [d1, d2] => { results := [.lit (.bool true)], args := [d1, d2] }
  | _ => none }
def rulesWrapsRow : OpenClaim := { program := "ytmkanofeencgpaadoor", sum := "8914d2e70d17ff16bf522da8c7a24ab85da157a0878745ae8f9dfa24d531ad66", func := "thicket/thicketlaw08.RulesWraps", spec := "rulesWraps", inPlace := ["math.Float64bits"], unfollowed := true, recurses := true, named := ["thicket/scan.kinds"], apart := false, laid := [("thicket/scan.kinds", laid_thicket_scan_kinds)] }
def RulesWrapsSaid : Prop := rulesWrapsRow.holds Tryd.pinned (OpenSpec.ofChange rulesWrapsSpec)

/-- ITS FALSE NEIGHBOUR: 'it returns false'. Refute it at one input. -/
def rulesWrapsWrong : ChangeSpec := { name := "rulesWraps", fn := fun _ => fun
  | [d1, d2] => { results := [.lit (.bool false)], args := [d1, d2] }
  | _ => none }
def RulesWrapsWrongFalsely : Prop := rulesWrapsRow.holds Tryd.pinned (OpenSpec.ofChange rulesWrapsWrong)

/-- 'thicketlaw08.RulesOthers': WHATEVER THE INPUT: true; the input reads as it did. -/
def rulesOthersSpec : ChangeSpec := { name := "rulesOthers", fn := fun _ => fun
  | [d1, d2, d3] => { results := [.lit (.bool true)], args := [d1, d2, d3] }
  | _ => none }
def rulesOthersRow : OpenClaim := { program := "ytmkanofeencgpaadoor", sum := "8914d2e70d17ff16bf522da8c7a24ab85da157a0878745ae8f9dfa24d531ad66", func := "thicket/thicketlaw08.RulesOthers", spec := "rulesOthers", inPlace := ["math.Float64bits"], unfollowed := true, recurses := true, named := ["thicket/scan.kinds"], apart := false, laid := [("thicket/scan.kinds", laid_thicket_scan_kinds)] }
def RulesOthersSaid : Prop := rulesOthersRow.holds Tryd.pinned (OpenSpec.ofChange rulesOthersSpec)

/-- ITS FALSE NEIGHBOUR: 'it returns false'. Refute it at one input. -/
def rulesOthersWrong : ChangeSpec := { name := "rulesOthers", fn := fun _ => fun
  | [d1, d2, d3] => { results := [.lit (.bool false)], args := [d1, d2, d3] }
  | _ => none }
def RulesOthersWrongFalsely : Prop := rulesOthersRow.holds Tryd.pinned (OpenSpec.ofChange rulesOthersWrong)

/-- 'thicketlaw08.RulesOwn': WHATEVER THE INPUT: true; the input reads as it did. -/
def rulesOwnSpec : ChangeSpec := { name := "rulesOwn", fn := fun _ => fun
  | [d1, d2] => { results := [.lit (.bool true)], args := [d1, d2] }
  | _ => none }
def rulesOwnRow : OpenClaim := { program := "ytmkanofeencgpaadoor", sum := "8914d2e70d17ff16bf522da8c7a24ab85da157a0878745ae8f9dfa24d531ad66", func := "thicket/thicketlaw08.RulesOwn", spec := "rulesOwn", inPlace := ["math.Float64bits"], unfollowed := true, recurses := true, named := ["thicket/scan.kinds"], apart := false, laid := [("thicket/scan.kinds", laid_thicket_scan_kinds)] }
def RulesOwnSaid : Prop := rulesOwnRow.holds Tryd.pinned (OpenSpec.ofChange rulesOwnSpec)

/-- ITS FALSE NEIGHBOUR: 'it returns false'. Refute it at one input. -/
def rulesOwnWrong : ChangeSpec := { name := "rulesOwn", fn := fun _ => fun
  | [d1, d2] => { results := [.lit (.bool false)], args := [d1, d2] }
  | _ => none }
def RulesOwnWrongFalsely : Prop := rulesOwnRow.holds Tryd.pinned (OpenSpec.ofChange rulesOwnWrong)

/- THE SECOND FORM. 'bulk': how many values and letters a reading holds, each counted each time it is reached (what is shared counts as often as it is met; a slice's spare places count too). A statement '..UptoSaid' is the law's where the arguments, and the package variables that the reading takes, are together of bulk at most 1048576: NARROWER than '..Said'. Prove '..Said' where nothing that the law and all that it calls make is longer than what came in: it says more and counts as full. Else prove '..UptoSaid'. A law counts once. -/
mutual
def uptoBulk {H : Type} : DataW H → Nat
  | .lit (.string bytes) => bytes.length + 1
  | .lit _ => 1
  | .nil => 1
  | .ptr d => uptoBulk d + 1
  | .slice elems spare => uptoBulkAll elems + uptoBulkAll spare + 1
  | .agg parts => uptoBulkAll parts + 1
  | .iface _ d => uptoBulk d + 1
  | .map entries => uptoBulkEntries entries + 1
  | .held _ => 1
def uptoBulkAll {H : Type} : List (DataW H) → Nat
  | [] => 0
  | d :: r => uptoBulk d + uptoBulkAll r
def uptoBulkEntries {H : Type} : List (Lit × DataW H) → Nat
  | [] => 0
  | x :: r => uptoBulkEntry x + uptoBulkEntries r
def uptoBulkEntry {H : Type} : Lit × DataW H → Nat
  | (.string bytes, d) => bytes.length + uptoBulk d + 1
  | (_, d) => uptoBulk d + 1
 end
def uptoSmall : (H : Type) → List (DataW H) → Bool := fun _ ds => decide (uptoBulkAll ds ≤ 1048576)
def OpenSpec.upto (s : _root_.Go.ChangeSpec) : _root_.Go.OpenSpec := { _root_.Go.OpenSpec.ofChange s with cond := some uptoSmall }

/-- 'thicketlaw08.RulesCheck', WHERE WHAT IT READS IS OF BULK AT MOST 1048576: true; the input reads as it did. -/
def rulesCheckUptoRow : OpenClaim := { program := "ytmkanofeencgpaadoor", sum := "8914d2e70d17ff16bf522da8c7a24ab85da157a0878745ae8f9dfa24d531ad66", func := "thicket/thicketlaw08.RulesCheck", spec := "rulesCheck", inPlace := ["math.Float64bits"], unfollowed := true, recurses := true, named := ["thicket/scan.kinds"], apart := false, laid := [("thicket/scan.kinds", laid_thicket_scan_kinds)], narrowed := true }
def RulesCheckUptoSaid : Prop := rulesCheckUptoRow.holds Tryd.pinned (OpenSpec.upto rulesCheckSpec)

/-- 'thicketlaw08.RulesRooms', WHERE WHAT IT READS IS OF BULK AT MOST 1048576: true; the input reads as it did. -/
def rulesRoomsUptoRow : OpenClaim := { program := "ytmkanofeencgpaadoor", sum := "8914d2e70d17ff16bf522da8c7a24ab85da157a0878745ae8f9dfa24d531ad66", func := "thicket/thicketlaw08.RulesRooms", spec := "rulesRooms", inPlace := ["math.Float64bits"], unfollowed := true, recurses := true, named := ["thicket/scan.kinds"], apart := false, laid := [("thicket/scan.kinds", laid_thicket_scan_kinds)], narrowed := true }
def RulesRoomsUptoSaid : Prop := rulesRoomsUptoRow.holds Tryd.pinned (OpenSpec.upto rulesRoomsSpec)

/-- 'thicketlaw08.RulesWhole', WHERE WHAT IT READS IS OF BULK AT MOST 1048576: true; the input reads as it did. -/
def rulesWholeUptoRow : OpenClaim := { program := "ytmkanofeencgpaadoor", sum := "8914d2e70d17ff16bf522da8c7a24ab85da157a0878745ae8f9dfa24d531ad66", func := "thicket/thicketlaw08.RulesWhole", spec := "rulesWhole", inPlace := ["math.Float64bits"], unfollowed := true, recurses := true, named := ["thicket/scan.kinds"], apart := false, laid := [("thicket/scan.kinds", laid_thicket_scan_kinds)], narrowed := true }
def RulesWholeUptoSaid : Prop := rulesWholeUptoRow.holds Tryd.pinned (OpenSpec.upto rulesWholeSpec)

/-- 'thicketlaw08.RulesWraps', WHERE WHAT IT READS IS OF BULK AT MOST 1048576: true; the input reads as it did. -/
def rulesWrapsUptoRow : OpenClaim := { program := "ytmkanofeencgpaadoor", sum := "8914d2e70d17ff16bf522da8c7a24ab85da157a0878745ae8f9dfa24d531ad66", func := "thicket/thicketlaw08.RulesWraps", spec := "rulesWraps", inPlace := ["math.Float64bits"], unfollowed := true, recurses := true, named := ["thicket/scan.kinds"], apart := false, laid := [("thicket/scan.kinds", laid_thicket_scan_kinds)], narrowed := true }
def RulesWrapsUptoSaid : Prop := rulesWrapsUptoRow.holds Tryd.pinned (OpenSpec.upto rulesWrapsSpec)

/-- 'thicketlaw08.RulesOthers', WHERE WHAT IT READS IS OF BULK AT MOST 1048576: true; the input reads as it did. -/
def rulesOthersUptoRow : OpenClaim := { program := "ytmkanofeencgpaadoor", sum := "8914d2e70d17ff16bf522da8c7a24ab85da157a0878745ae8f9dfa24d531ad66", func := "thicket/thicketlaw08.RulesOthers", spec := "rulesOthers", inPlace := ["math.Float64bits"], unfollowed := true, recurses := true, named := ["thicket/scan.kinds"], apart := false, laid := [("thicket/scan.kinds", laid_thicket_scan_kinds)], narrowed := true }
def RulesOthersUptoSaid : Prop := rulesOthersUptoRow.holds Tryd.pinned (OpenSpec.upto rulesOthersSpec)

/-- 'thicketlaw08.RulesOwn', WHERE WHAT IT READS IS OF BULK AT MOST 1048576: true; the input reads as it did. -/
def rulesOwnUptoRow : OpenClaim := { program := "ytmkanofeencgpaadoor", sum := "8914d2e70d17ff16bf522da8c7a24ab85da157a0878745ae8f9dfa24d531ad66", func := "thicket/thicketlaw08.RulesOwn", spec := "rulesOwn", inPlace := ["math.Float64bits"], unfollowed := true, recurses := true, named := ["thicket/scan.kinds"], apart := false, laid := [("thicket/scan.kinds", laid_thicket_scan_kinds)], narrowed := true }
def RulesOwnUptoSaid : Prop := rulesOwnUptoRow.holds Tryd.pinned (OpenSpec.upto rulesOwnSpec)

end Rows
end Go.Proofs.YtmkanofeencgpaaDoor
