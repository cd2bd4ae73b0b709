/-
  NARROWER THAN 'FOR EVERY INPUT', by the rows' own cells (each row's printed sentence says how): RulesCheck: laid · RulesRooms: laid · RulesSays: laid · RulesWhole: laid · RulesWraps: laid · RulesLimits: laid · RulesOthers: laid · RulesOwn: laid.
  DERIVED. THE GIVEN ROWS OF THIS SEAT. 8 by the template 'for every input the law returns true; each argument reads behind the call as it read before'; 0 by the template 'total and deterministic' (their statements: YtckceokgeainlaaDoorTotals.lean).
  GIVEN WITH THE SEED: the statements are not yours to turn. If you find one false, say at which input.
  Laid BY PROGRAM, IN A SANDBOX (cutbox-rows.mjs): the forced cells as the released guide's own fill.sh prints them over the translation 9e2e602decfde0ff… (all of the seat's roots in one cut). By AI agents, Wed Nov 11 2026. No macro, syntax, notation, axiom, sorry.
-/
import Derived.Test.YtckceokgeainlaaDoorChecked
import GoSem.Claim
import GoSem.ClaimJoined
import GoSem.ClaimMapViews
import Derived.JoinedTies
import Derived.KernelRfl
namespace Go.Proofs.YtckceokgeainlaaDoor
/- THE CELL 'sum', in the pinned program and in every row, IS THE sha256 OF THE DUMP (.gsa) THAT YtckceokgeainlaaDoorProg.lean LOADS. Nothing in Lean hashes anything: it is a label: what it is worth is what the hold of that sum in a sandbox is worth. -/
noncomputable def Tryd.pinned : Pinned := { name := "ytckceokgeainlaadoor", sum := "9e2e602decfde0ffe50ca900d21aad4932607d136d40960e549bf6f605b8a49b", checked := Tryd.checked }
namespace Rows
def none {H : Type} : Left H := { results := [], args := [] }

/- WHAT THE LISTED PACKAGE-LEVEL VARIABLES READ AS WHEN THE CALL BEGINS. Each datum BY PROGRAM (the guide's laid-datum.mjs) off the statement by which the dump's own 'gosem.cut.vars' lays the variable. In a bare row this is a premise. The card (YtckceokgeainlaaDoorCards.lean) ties it to the program's text. -/
def laid_thicket_scan_kinds {H : Type} : DataW H := .agg [.lit (.int .u8 0), .lit (.int .u8 0), .lit (.int .u8 0), .lit (.int .u8 0), .lit (.int .u8 0), .lit (.int .u8 0), .lit (.int .u8 0), .lit (.int .u8 0), .lit (.int .u8 0), .lit (.int .u8 1), .lit (.int .u8 0), .lit (.int .u8 0), .lit (.int .u8 0), .lit (.int .u8 0), .lit (.int .u8 0), .lit (.int .u8 0), .lit (.int .u8 0), .lit (.int .u8 0), .lit (.int .u8 0), .lit (.int .u8 0), .lit (.int .u8 0), .lit (.int .u8 0), .lit (.int .u8 0), .lit (.int .u8 0), .lit (.int .u8 0), .lit (.int .u8 0), .lit (.int .u8 0), .lit (.int .u8 0), .lit (.int .u8 0), .lit (.int .u8 0), .lit (.int .u8 0), .lit (.int .u8 0), .lit (.int .u8 1), .lit (.int .u8 7), .lit (.int .u8 8), .lit (.int .u8 9), .lit (.int .u8 0), .lit (.int .u8 0), .lit (.int .u8 0), .lit (.int .u8 0), .lit (.int .u8 6), .lit (.int .u8 6), .lit (.int .u8 0), .lit (.int .u8 5), .lit (.int .u8 6), .lit (.int .u8 4), .lit (.int .u8 4), .lit (.int .u8 0), .lit (.int .u8 3), .lit (.int .u8 3), .lit (.int .u8 3), .lit (.int .u8 3), .lit (.int .u8 3), .lit (.int .u8 3), .lit (.int .u8 3), .lit (.int .u8 3), .lit (.int .u8 3), .lit (.int .u8 3), .lit (.int .u8 6), .lit (.int .u8 6), .lit (.int .u8 6), .lit (.int .u8 6), .lit (.int .u8 6), .lit (.int .u8 0), .lit (.int .u8 0), .lit (.int .u8 2), .lit (.int .u8 2), .lit (.int .u8 2), .lit (.int .u8 2), .lit (.int .u8 2), .lit (.int .u8 2), .lit (.int .u8 2), .lit (.int .u8 2), .lit (.int .u8 2), .lit (.int .u8 2), .lit (.int .u8 2), .lit (.int .u8 2), .lit (.int .u8 2), .lit (.int .u8 2), .lit (.int .u8 2), .lit (.int .u8 2), .lit (.int .u8 2), .lit (.int .u8 2), .lit (.int .u8 2), .lit (.int .u8 2), .lit (.int .u8 2), .lit (.int .u8 2), .lit (.int .u8 2), .lit (.int .u8 2), .lit (.int .u8 2), .lit (.int .u8 2), .lit (.int .u8 6), .lit (.int .u8 0), .lit (.int .u8 6), .lit (.int .u8 0), .lit (.int .u8 2), .lit (.int .u8 0), .lit (.int .u8 2), .lit (.int .u8 2), .lit (.int .u8 2), .lit (.int .u8 2), .lit (.int .u8 2), .lit (.int .u8 2), .lit (.int .u8 2), .lit (.int .u8 2), .lit (.int .u8 2), .lit (.int .u8 2), .lit (.int .u8 2), .lit (.int .u8 2), .lit (.int .u8 2), .lit (.int .u8 2), .lit (.int .u8 2), .lit (.int .u8 2), .lit (.int .u8 2), .lit (.int .u8 2), .lit (.int .u8 2), .lit (.int .u8 2), .lit (.int .u8 2), .lit (.int .u8 2), .lit (.int .u8 2), .lit (.int .u8 2), .lit (.int .u8 2), .lit (.int .u8 2), .lit (.int .u8 6), .lit (.int .u8 6), .lit (.int .u8 6), .lit (.int .u8 0), .lit (.int .u8 0)]
def laid_math_bits_deBruijn32tab {H : Type} : DataW H := .agg [.lit (.int .u8 0), .lit (.int .u8 1), .lit (.int .u8 28), .lit (.int .u8 2), .lit (.int .u8 29), .lit (.int .u8 14), .lit (.int .u8 24), .lit (.int .u8 3), .lit (.int .u8 30), .lit (.int .u8 22), .lit (.int .u8 20), .lit (.int .u8 15), .lit (.int .u8 25), .lit (.int .u8 17), .lit (.int .u8 4), .lit (.int .u8 8), .lit (.int .u8 31), .lit (.int .u8 27), .lit (.int .u8 13), .lit (.int .u8 23), .lit (.int .u8 21), .lit (.int .u8 19), .lit (.int .u8 16), .lit (.int .u8 7), .lit (.int .u8 26), .lit (.int .u8 12), .lit (.int .u8 18), .lit (.int .u8 6), .lit (.int .u8 11), .lit (.int .u8 5), .lit (.int .u8 10), .lit (.int .u8 9)]
def laid_math_bits_deBruijn64tab {H : Type} : DataW H := .agg [.lit (.int .u8 0), .lit (.int .u8 1), .lit (.int .u8 56), .lit (.int .u8 2), .lit (.int .u8 57), .lit (.int .u8 49), .lit (.int .u8 28), .lit (.int .u8 3), .lit (.int .u8 61), .lit (.int .u8 58), .lit (.int .u8 42), .lit (.int .u8 50), .lit (.int .u8 38), .lit (.int .u8 29), .lit (.int .u8 17), .lit (.int .u8 4), .lit (.int .u8 62), .lit (.int .u8 47), .lit (.int .u8 59), .lit (.int .u8 36), .lit (.int .u8 45), .lit (.int .u8 43), .lit (.int .u8 51), .lit (.int .u8 22), .lit (.int .u8 53), .lit (.int .u8 39), .lit (.int .u8 33), .lit (.int .u8 30), .lit (.int .u8 24), .lit (.int .u8 18), .lit (.int .u8 12), .lit (.int .u8 5), .lit (.int .u8 63), .lit (.int .u8 55), .lit (.int .u8 48), .lit (.int .u8 27), .lit (.int .u8 60), .lit (.int .u8 41), .lit (.int .u8 37), .lit (.int .u8 16), .lit (.int .u8 46), .lit (.int .u8 35), .lit (.int .u8 44), .lit (.int .u8 21), .lit (.int .u8 52), .lit (.int .u8 32), .lit (.int .u8 23), .lit (.int .u8 11), .lit (.int .u8 54), .lit (.int .u8 26), .lit (.int .u8 40), .lit (.int .u8 15), .lit (.int .u8 34), .lit (.int .u8 20), .lit (.int .u8 31), .lit (.int .u8 10), .lit (.int .u8 25), .lit (.int .u8 14), .lit (.int .u8 19), .lit (.int .u8 9), .lit (.int .u8 13), .lit (.int .u8 8), .lit (.int .u8 7), .lit (.int .u8 6)]
def laid_internal_strconv_uint64pow10 {H : Type} : DataW H := .agg [.lit (.int .u64 1), .lit (.int .u64 10), .lit (.int .u64 100), .lit (.int .u64 1000), .lit (.int .u64 10000), .lit (.int .u64 100000), .lit (.int .u64 1000000), .lit (.int .u64 10000000), .lit (.int .u64 100000000), .lit (.int .u64 1000000000), .lit (.int .u64 10000000000), .lit (.int .u64 100000000000), .lit (.int .u64 1000000000000), .lit (.int .u64 10000000000000), .lit (.int .u64 100000000000000), .lit (.int .u64 1000000000000000), .lit (.int .u64 10000000000000000), .lit (.int .u64 100000000000000000), .lit (.int .u64 1000000000000000000), .lit (.int .u64 10000000000000000000)]

/-- 'thicketlaw08.RulesCheck': WHATEVER THE INPUT: true; the input reads as it did. -/
def rulesCheckSpec : ChangeSpec := { name := "rulesCheck", fn := fun _ => fun
  | [d] => { results := [.lit (.bool true)], args := [d] }
  | _ => none }
def rulesCheckRow : OpenClaim := { program := "ytckceokgeainlaadoor", sum := "9e2e602decfde0ffe50ca900d21aad4932607d136d40960e549bf6f605b8a49b", func := "thicket/thicketlaw08.RulesCheck", spec := "rulesCheck", inPlace := ["math.Float64bits"], unfollowed := true, recurses := true, named := ["thicket/scan.kinds"], apart := false, laid := [("thicket/scan.kinds", laid_thicket_scan_kinds)] }
def RulesCheckSaid : Prop := rulesCheckRow.holds Tryd.pinned (OpenSpec.ofChange rulesCheckSpec)

/-- ITS FALSE NEIGHBOUR: 'it returns false'. Refute it at one input. -/
def rulesCheckWrong : ChangeSpec := { name := "rulesCheck", fn := fun _ => fun
  | [d] => { results := [.lit (.bool false)], args := [d] }
  | _ => none }
def RulesCheckWrongFalsely : Prop := rulesCheckRow.holds Tryd.pinned (OpenSpec.ofChange rulesCheckWrong)

/-- 'thicketlaw08.RulesRooms': WHATEVER THE INPUT: true; the input reads as it did. -/
def rulesRoomsSpec : ChangeSpec := { name := "rulesRooms", fn := fun _ => fun
  | [d1, d2] => { results := [.lit (.bool true)], args := [d1, d2] }
  | _ => none }
def rulesRoomsRow : OpenClaim := { program := "ytckceokgeainlaadoor", sum := "9e2e602decfde0ffe50ca900d21aad4932607d136d40960e549bf6f605b8a49b", func := "thicket/thicketlaw08.RulesRooms", spec := "rulesRooms", inPlace := ["math.Float64bits"], unfollowed := true, recurses := true, named := ["thicket/scan.kinds"], apart := false, laid := [("thicket/scan.kinds", laid_thicket_scan_kinds)] }
def RulesRoomsSaid : Prop := rulesRoomsRow.holds Tryd.pinned (OpenSpec.ofChange rulesRoomsSpec)

/-- ITS FALSE NEIGHBOUR: 'it returns false'. Refute it at one input. -/
def rulesRoomsWrong : ChangeSpec := { name := "rulesRooms", fn := fun _ => fun
  | [d1, d2] => { results := [.lit (.bool false)], args := [d1, d2] }
  | _ => none }
def RulesRoomsWrongFalsely : Prop := rulesRoomsRow.holds Tryd.pinned (OpenSpec.ofChange rulesRoomsWrong)

/-- 'thicketlaw08.RulesSays': WHATEVER THE INPUT: true; the input reads as it did. -/
def rulesSaysSpec : ChangeSpec := { name := "rulesSays", fn := fun _ => fun
  | [d] => { results := [.lit (.bool true)], args := [d] }
  | _ => none }
def rulesSaysRow : OpenClaim := { program := "ytckceokgeainlaadoor", sum := "9e2e602decfde0ffe50ca900d21aad4932607d136d40960e549bf6f605b8a49b", func := "thicket/thicketlaw08.RulesSays", spec := "rulesSays", named := ["internal/strconv.uint64pow10", "math/bits.deBruijn32tab", "math/bits.deBruijn64tab"], apart := false, laid := [("math/bits.deBruijn32tab", laid_math_bits_deBruijn32tab), ("math/bits.deBruijn64tab", laid_math_bits_deBruijn64tab), ("internal/strconv.uint64pow10", laid_internal_strconv_uint64pow10)] }
def RulesSaysSaid : Prop := rulesSaysRow.holds Tryd.pinned (OpenSpec.ofChange rulesSaysSpec)

/-- ITS FALSE NEIGHBOUR: 'it returns false'. Refute it at one input. -/
def rulesSaysWrong : ChangeSpec := { name := "rulesSays", fn := fun _ => fun
  | [d] => { results := [.lit (.bool false)], args := [d] }
  | _ => none }
def RulesSaysWrongFalsely : Prop := rulesSaysRow.holds Tryd.pinned (OpenSpec.ofChange rulesSaysWrong)

/-- 'thicketlaw08.RulesWhole': WHATEVER THE INPUT: true; the input reads as it did. -/
def rulesWholeSpec : ChangeSpec := { name := "rulesWhole", fn := fun _ => fun
  | [d1, d2] => { results := [.lit (.bool true)], args := [d1, d2] }
  | _ => none }
def rulesWholeRow : OpenClaim := { program := "ytckceokgeainlaadoor", sum := "9e2e602decfde0ffe50ca900d21aad4932607d136d40960e549bf6f605b8a49b", func := "thicket/thicketlaw08.RulesWhole", spec := "rulesWhole", inPlace := ["math.Float64bits"], unfollowed := true, recurses := true, named := ["thicket/scan.kinds"], apart := false, laid := [("thicket/scan.kinds", laid_thicket_scan_kinds)] }
def RulesWholeSaid : Prop := rulesWholeRow.holds Tryd.pinned (OpenSpec.ofChange rulesWholeSpec)

/-- ITS FALSE NEIGHBOUR: 'it returns false'. Refute it at one input. -/
def rulesWholeWrong : ChangeSpec := { name := "rulesWhole", fn := fun _ => fun
  | [d1, d2] => { results := [.lit (.bool false)], args := [d1, d2] }
  | _ => none }
def RulesWholeWrongFalsely : Prop := rulesWholeRow.holds Tryd.pinned (OpenSpec.ofChange rulesWholeWrong)

/-- 'thicketlaw08.RulesWraps': WHATEVER THE INPUT: true; the input reads as it did. -/
def rulesWrapsSpec : ChangeSpec := { name := "rulesWraps", fn := fun _ => fun
  | [d1, d2] => { results := [.lit (.bool true)], args := [d1, d2] }
  | _ => none }
def rulesWrapsRow : OpenClaim := { program := "ytckceokgeainlaadoor", sum := "9e2e602decfde0ffe50ca900d21aad4932607d136d40960e549bf6f605b8a49b", func := "thicket/thicketlaw08.RulesWraps", spec := "rulesWraps", inPlace := ["math.Float64bits"], unfollowed := true, recurses := true, named := ["thicket/scan.kinds"], apart := false, laid := [("thicket/scan.kinds", laid_thicket_scan_kinds)] }
def RulesWrapsSaid : Prop := rulesWrapsRow.holds Tryd.pinned (OpenSpec.ofChange rulesWrapsSpec)

/-- ITS FALSE NEIGHBOUR: 'it returns false'. Refute it at one input. -/
def rulesWrapsWrong : ChangeSpec := { name := "rulesWraps", fn := fun _ => fun
  | [d1, d2] => { results := [.lit (.bool false)], args := [d1, d2] }
  | _ => none }
def RulesWrapsWrongFalsely : Prop := rulesWrapsRow.holds Tryd.pinned (OpenSpec.ofChange rulesWrapsWrong)

/-- 'thicketlaw08.RulesLimits': WHATEVER THE INPUT: true; the input reads as it did. -/
def rulesLimitsSpec : ChangeSpec := { name := "rulesLimits", fn := fun _ => fun
  | [] => { results := [.lit (.bool true)], args := [] }
  | _ => none }
def rulesLimitsRow : OpenClaim := { program := "ytckceokgeainlaadoor", sum := "9e2e602decfde0ffe50ca900d21aad4932607d136d40960e549bf6f605b8a49b", func := "thicket/thicketlaw08.RulesLimits", spec := "rulesLimits", inPlace := ["math.Float64bits"], unfollowed := true, recurses := true, named := ["thicket/scan.kinds"], apart := false, laid := [("thicket/scan.kinds", laid_thicket_scan_kinds)] }
def RulesLimitsSaid : Prop := rulesLimitsRow.holds Tryd.pinned (OpenSpec.ofChange rulesLimitsSpec)

/-- ITS FALSE NEIGHBOUR: 'it returns false'. Refute it at one input. -/
def rulesLimitsWrong : ChangeSpec := { name := "rulesLimits", fn := fun _ => fun
  | [] => { results := [.lit (.bool false)], args := [] }
  | _ => none }
def RulesLimitsWrongFalsely : Prop := rulesLimitsRow.holds Tryd.pinned (OpenSpec.ofChange rulesLimitsWrong)

/-- 'thicketlaw08.RulesOthers': WHATEVER THE INPUT: true; the input reads as it did. -/
def rulesOthersSpec : ChangeSpec := { name := "rulesOthers", fn := fun _ => fun
  | [d1, d2, d3] => { results := [.lit (.bool true)], args := [d1, d2, d3] }
  | _ => none }
def rulesOthersRow : OpenClaim := { program := "ytckceokgeainlaadoor", sum := "9e2e602decfde0ffe50ca900d21aad4932607d136d40960e549bf6f605b8a49b", func := "thicket/thicketlaw08.RulesOthers", spec := "rulesOthers", inPlace := ["math.Float64bits"], unfollowed := true, recurses := true, named := ["thicket/scan.kinds"], apart := false, laid := [("thicket/scan.kinds", laid_thicket_scan_kinds)] }
def RulesOthersSaid : Prop := rulesOthersRow.holds Tryd.pinned (OpenSpec.ofChange rulesOthersSpec)

/-- ITS FALSE NEIGHBOUR: 'it returns false'. Refute it at one input. -/
def rulesOthersWrong : ChangeSpec := { name := "rulesOthers", fn := fun _ => fun
  | [d1, d2, d3] => { results := [.lit (.bool false)], args := [d1, d2, d3] }
  | _ => none }
def RulesOthersWrongFalsely : Prop := rulesOthersRow.holds Tryd.pinned (OpenSpec.ofChange rulesOthersWrong)

/-- 'thicketlaw08.RulesOwn': WHATEVER THE INPUT: true; the input reads as it did. -/
def rulesOwnSpec : ChangeSpec := { name := "rulesOwn", fn := fun _ => fun
  | [d1, d2] => { results := [.lit (.bool true)], args := [d1, d2] }
  | _ => none }
def rulesOwnRow : OpenClaim := { program := "ytckceokgeainlaadoor", sum := "9e2e602decfde0ffe50ca900d21aad4932607d136d40960e549bf6f605b8a49b", func := "thicket/thicketlaw08.RulesOwn", spec := "rulesOwn", inPlace := ["math.Float64bits"], unfollowed := true, recurses := true, named := ["thicket/scan.kinds"], apart := false, laid := [("thicket/scan.kinds", laid_thicket_scan_kinds)] }
def RulesOwnSaid : Prop := rulesOwnRow.holds Tryd.pinned (OpenSpec.ofChange rulesOwnSpec)

/-- ITS FALSE NEIGHBOUR: 'it returns false'. Refute it at one input. -/
def rulesOwnWrong : ChangeSpec := { name := "rulesOwn", fn := fun _ => fun
  | [d1, d2] => { results := [.lit (.bool false)], args := [d1, d2] }
  | _ => none }
def RulesOwnWrongFalsely : Prop := rulesOwnRow.holds Tryd.pinned (OpenSpec.ofChange rulesOwnWrong)

/- THE SECOND FORM. 'bulk': how many values and letters a reading holds, each counted each time it is reached (what is shared counts as often as it is met; a slice's spare places count too). A statement '..UptoSaid' is the law's where the arguments, and the package variables that the reading takes, are together of bulk at most 1048576: NARROWER than '..Said'. Prove '..Said' where nothing that the law and all that it calls make is longer than what came in: it says more and counts as full. Else prove '..UptoSaid'. A law counts once. -/
mutual
def uptoBulk {H : Type} : DataW H → Nat
  | .lit (.string bytes) => bytes.length + 1
  | .lit _ => 1
  | .nil => 1
  | .ptr d => uptoBulk d + 1
  | .slice elems spare => uptoBulkAll elems + uptoBulkAll spare + 1
  | .agg parts => uptoBulkAll parts + 1
  | .iface _ d => uptoBulk d + 1
  | .map entries => uptoBulkEntries entries + 1
  | .held _ => 1
def uptoBulkAll {H : Type} : List (DataW H) → Nat
  | [] => 0
  | d :: r => uptoBulk d + uptoBulkAll r
def uptoBulkEntries {H : Type} : List (Lit × DataW H) → Nat
  | [] => 0
  | x :: r => uptoBulkEntry x + uptoBulkEntries r
def uptoBulkEntry {H : Type} : Lit × DataW H → Nat
  | (.string bytes, d) => bytes.length + uptoBulk d + 1
  | (_, d) => uptoBulk d + 1
 end
def uptoSmall : (H : Type) → List (DataW H) → Bool := fun _ ds => decide (uptoBulkAll ds ≤ 1048576)
def OpenSpec.upto (s : _root_.Go.ChangeSpec) : _root_.Go.OpenSpec := { _root_.Go.OpenSpec.ofChange s with cond := some uptoSmall }

/-- 'thicketlaw08.RulesCheck', WHERE WHAT IT READS IS OF BULK AT MOST 1048576: true; the input reads as it did. -/
def rulesCheckUptoRow : OpenClaim := { program := "ytckceokgeainlaadoor", sum := "9e2e602decfde0ffe50ca900d21aad4932607d136d40960e549bf6f605b8a49b", func := "thicket/thicketlaw08.RulesCheck", spec := "rulesCheck", inPlace := ["math.Float64bits"], unfollowed := true, recurses := true, named := ["thicket/scan.kinds"], apart := false, laid := [("thicket/scan.kinds", laid_thicket_scan_kinds)], narrowed := true }
def RulesCheckUptoSaid : Prop := rulesCheckUptoRow.holds Tryd.pinned (OpenSpec.upto rulesCheckSpec)

/-- 'thicketlaw08.RulesRooms', WHERE WHAT IT READS IS OF BULK AT MOST 1048576: true; the input reads as it did. -/
def rulesRoomsUptoRow : OpenClaim := { program := "ytckceokgeainlaadoor", sum := "9e2e602decfde0ffe50ca900d21aad4932607d136d40960e549bf6f605b8a49b", func := "thicket/thicketlaw08.RulesRooms", spec := "rulesRooms", inPlace := ["math.Float64bits"], unfollowed := true, recurses := true, named := ["thicket/scan.kinds"], apart := false, laid := [("thicket/scan.kinds", laid_thicket_scan_kinds)], narrowed := true }
def RulesRoomsUptoSaid : Prop := rulesRoomsUptoRow.holds Tryd.pinned (OpenSpec.upto rulesRoomsSpec)

/-- 'thicketlaw08.RulesSays', WHERE WHAT IT READS IS OF BULK AT MOST 1048576: true; the input reads as it did. -/
def rulesSaysUptoRow : OpenClaim := { program := "ytckceokgeainlaadoor", sum := "9e2e602decfde0ffe50ca900d21aad4932607d136d40960e549bf6f605b8a49b", func := "thicket/thicketlaw08.RulesSays", spec := "rulesSays", named := ["internal/strconv.uint64pow10", "math/bits.deBruijn32tab", "math/bits.deBruijn64tab"], apart := false, laid := [("math/bits.deBruijn32tab", laid_math_bits_deBruijn32tab), ("math/bits.deBruijn64tab", laid_math_bits_deBruijn64tab), ("internal/strconv.uint64pow10", laid_internal_strconv_uint64pow10)], narrowed := true }
def RulesSaysUptoSaid : Prop := rulesSaysUptoRow.holds Tryd.pinned (OpenSpec.upto rulesSaysSpec)

/-- 'thicketlaw08.RulesWhole', WHERE WHAT IT READS IS OF BULK AT MOST 1048576: true; the input reads as it did. -/
def rulesWholeUptoRow : OpenClaim := { program := "ytckceokgeainlaadoor", sum := "9e2e602decfde0ffe50ca900d21aad4932607d136d40960e549bf6f605b8a49b", func := "thicket/thicketlaw08.RulesWhole", spec := "rulesWhole", inPlace := ["math.Float64bits"], unfollowed := true, recurses := true, named := ["thicket/scan.kinds"], apart := false, laid := [("thicket/scan.kinds", laid_thicket_scan_kinds)], narrowed := true }
def RulesWholeUptoSaid : Prop := rulesWholeUptoRow.holds Tryd.pinned (OpenSpec.upto rulesWholeSpec)

/-- 'thicketlaw08.RulesWraps', WHERE WHAT IT READS IS OF BULK AT MOST 1048576: true; the input reads as it did. -/
def rulesWrapsUptoRow : OpenClaim := { program := "ytckceokgeainlaadoor", sum := "9e2e602decfde0ffe50ca900d21aad4932607d136d40960e549bf6f605b8a49b", func := "thicket/thicketlaw08.RulesWraps", spec := "rulesWraps", inPlace := ["math.Float64bits"], unfollowed := true, recurses := true, named := ["thicket/scan.kinds"], apart := false, laid := [("thicket/scan.kinds", laid_thicket_scan_kinds)], narrowed := true }
def RulesWrapsUptoSaid : Prop := rulesWrapsUptoRow.holds Tryd.pinned (OpenSpec.upto rulesWrapsSpec)

/-- 'thicketlaw08.RulesLimits', WHERE WHAT IT READS IS OF BULK AT MOST 1048576: true; the input reads as it did. -/
def rulesLimitsUptoRow : OpenClaim := { program := "ytckceokgeainlaadoor", sum := "9e2e602decfde0ffe50ca900d21aad4932607d136d40960e549bf6f605b8a49b", func := "thicket/thicketlaw08.RulesLimits", spec := "rulesLimits", inPlace := ["math.Float64bits"], unfollowed := true, recurses := true, named := ["thicket/scan.kinds"], apart := false, laid := [("thicket/scan.kinds", laid_thicket_scan_kinds)], narrowed := true }
def RulesLimitsUptoSaid : Prop := rulesLimitsUptoRow.holds Tryd.pinned (OpenSpec.upto rulesLimitsSpec)

/-- 'thicketlaw08.RulesOthers', WHERE WHAT IT READS IS OF BULK AT MOST 1048576: true; the input reads as it did. -/
def rulesOthersUptoRow : OpenClaim := { program := "ytckceokgeainlaadoor", sum := "9e2e602decfde0ffe50ca900d21aad4932607d136d40960e549bf6f605b8a49b", func := "thicket/thicketlaw08.RulesOthers", spec := "rulesOthers", inPlace := ["math.Float64bits"], unfollowed := true, recurses := true, named := ["thicket/scan.kinds"], apart := false, laid := [("thicket/scan.kinds", laid_thicket_scan_kinds)], narrowed := true }
def RulesOthersUptoSaid : Prop := rulesOthersUptoRow.holds Tryd.pinned (OpenSpec.upto rulesOthersSpec)

/-- 'thicketlaw08.RulesOwn', WHERE WHAT IT READS IS OF BULK AT MOST 1048576: true; the input reads as it did. -/
def rulesOwnUptoRow : OpenClaim := { program := "ytckceokgeainlaadoor", sum := "9e2e602decfde0ffe50ca900d21aad4932607d136d40960e549bf6f605b8a49b", func := "thicket/thicketlaw08.RulesOwn", spec := "rulesOwn", inPlace := ["math.Float64bits"], unfollowed := true, recurses := true, named := ["thicket/scan.kinds"], apart := false, laid := [("thicket/scan.kinds", laid_thicket_scan_kinds)], narrowed := true }
def RulesOwnUptoSaid : Prop := rulesOwnUptoRow.holds Tryd.pinned (OpenSpec.upto rulesOwnSpec)

end Rows
end Go.Proofs.YtckceokgeainlaaDoor
