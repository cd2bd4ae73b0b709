import Derived.Test.YtbjidpooociamaaDoorL3
import Derived.Test.YtbjidpooociamaaDoorL4
namespace Go.Proofs.YtbjidpooociamaaDoor
open Go.RowKit Lb
theorem law_field (n1 n2 n3 : Bool) (a b c d f h : Option Addr) (ca cb cc cd cf ch : Nat) (la lb lc ld lf lh : List Nat) (w : World) (hA : Arg2 w a ca la b cb lb) (hB : Arg2 w c cc lc d cd ld) (hC : Arg2 w f cf lf h ch lh) (sa : la.length + lb.length + lc.length + ld.length + lf.length + lh.length ≤ 1048576) :
    Calls Tryd.prog 11 #[.agg #[.bool n1, .slice a la.length ca, .slice b lb.length cb], .agg #[.bool n2, .slice c lc.length cc, .slice d ld.length cd], .agg #[.bool n3, .slice f lf.length cf, .slice h lh.length ch]] w fun e w' => e = .returned (.bool true) ∧ Keep w w' := by
  by_cases h0 : val lb = 0
  · exact field_e0 n1 n2 n3 a b c d f h ca cb cc cd cf ch la lb lc ld lf lh w hA hB hC sa h0
  · by_cases h1 : val ld = 0
    · exact field_e1 n1 n2 n3 a b c d f h ca cb cc cd cf ch la lb lc ld lf lh w hA hB hC sa h0 h1
    · by_cases h2 : val lh = 0
      · exact field_e2 n1 n2 n3 a b c d f h ca cb cc cd cf ch la lb lc ld lf lh w hA hB hC sa h0 h1 h2
      · by_cases h3 : val lc = 0
        · exact field_m0 n1 n2 n3 a b c d f h ca cb cc cd cf ch la lb lc ld lf lh w hA hB hC sa h0 h1 h2 h3
        · exact field_m1 n1 n2 n3 a b c d f h ca cb cc cd cf ch la lb lc ld lf lh w hA hB hC sa h0 h1 h2 h3
end Go.Proofs.YtbjidpooociamaaDoor
