import Derived.Test.YtodegcobkngmlaaDoorCL2
import Derived.Test.YtodegcobkngmlaaDoorCL4
set_option linter.unusedVariables false
set_option linter.unusedSimpArgs false
namespace Go.Proofs.YtodegcobkngmlaaDoor
open Go.RowKit Go.Shelf
theorem law_holds (nm : ByteArray) (fa : Option Addr) (fs : List ByteArray) (cf : Nat) (N : Int) (ba : Option Addr) (base : List Int) (cb : Nat) (ta : Option Addr) (ts : List (Int × List Nd)) (ct : Nat) (ax : Option Addr) (xs : List Nat) (cx : Nat) (w : World) (hA : EnA w nm fa fs ba base ta ts) (hcb : base.length ≤ cb) (hx : RdF w ax xs) (hxl : xs.length ≤ 17592186044416) :
    Calls Tryd.prog 3 #[.agg (ev nm fa fs.length cf N ba base.length cb ta ts.length ct), .slice ax xs.length cx] w fun e w' => e = .returned (.bool true) ∧ Keep w w' := by
  by_cases he : exE nm fs N base ts xs.length = 0
  · obtain ⟨h1, h2⟩ : (chB nm fs N base ts).1 = 0 ∧ xs.length = fs.length := by
      unfold exE at he
      split at he
      · rename_i h1
        split at he
        · rename_i h2; exact ⟨h1, h2⟩
        · cases he
      · cases he
    exact holds_ok nm fa fs cf N ba base cb ta ts ct ax xs cx w hA hcb hx hxl h1 h2
  · exact holds_err nm fa fs cf N ba base cb ta ts ct ax xs cx w hA hcb hx hxl he
theorem law_cwhole (nm : ByteArray) (fa : Option Addr) (fs : List ByteArray) (cf : Nat) (N : Int) (ba : Option Addr) (base : List Int) (cb : Nat) (ta : Option Addr) (ts : List (Int × List Nd)) (ct : Nat) (ax : Option Addr) (xs : List Nat) (cx : Nat) (o lim : Int) (w : World) (hA : EnA w nm fa fs ba base ta ts) (hcb : base.length ≤ cb) (hx : RdF w ax xs) (hxl : xs.length ≤ 17592186044416) :
    Calls Tryd.prog 4 #[.agg (ev nm fa fs.length cf N ba base.length cb ta ts.length ct), .slice ax xs.length cx, .int .i64 o, .int .i64 lim] w fun e w' => e = .returned (.bool true) ∧ Keep w w' := by
  by_cases he : exE nm fs N base ts xs.length = 0
  · obtain ⟨h1, h2⟩ : (chB nm fs N base ts).1 = 0 ∧ xs.length = fs.length := by
      unfold exE at he
      split at he
      · rename_i h1
        split at he
        · rename_i h2; exact ⟨h1, h2⟩
        · cases he
      · cases he
    exact whole_ok nm fa fs cf N ba base cb ta ts ct ax xs cx o lim w hA hcb hx hxl h1 h2
  · exact whole_err nm fa fs cf N ba base cb ta ts ct ax xs cx o lim w hA hcb hx hxl he
end Go.Proofs.YtodegcobkngmlaaDoor
