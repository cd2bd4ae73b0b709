import Derived.Test.YtmkanofeencgpaaDoorQ4
import Derived.Test.YtmkanofeencgpaaDoorQ5
import Derived.Test.YtmkanofeencgpaaDoorQ6
set_option linter.unusedVariables false
set_option linter.unusedSimpArgs false
namespace Go.Proofs.YtmkanofeencgpaaDoor
open Go.RowKit Go.Shelf
theorem rnodeR_any (n : Nd) (ca : Option Addr) (cap : Nat) (F M : Int) (w : World) (ht : n.th < 18446744073709551616) (hl : n.cs.length ≤ 17592186044416) (hr : RdI w ca n.cs) :
    Calls Tryd.prog 52 #[.agg (nvs n ca cap), .int .i64 F, .int .i64 M] w fun e w' => e = .returned (.int .i64 (ndR n F M)) ∧ Keep w w' := by
  by_cases h1 : n.kd = 1
  · exact rnode_1 n ca cap F M w h1
  · by_cases h2 : n.kd = 2
    · exact rnode_2 n ca cap F M w h2 ht
    · by_cases h3 : n.kd = 3
      · exact rnode_3 n ca cap F M w h3 hl hr
      · exact rnode_0 n ca cap F M w h1 h2 h3
end Go.Proofs.YtmkanofeencgpaaDoor
