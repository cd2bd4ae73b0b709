import Derived.Test.YtbjidpooociamaaDoorK8
set_option linter.unusedVariables false
set_option linter.unusedSimpArgs false
namespace Go.Proofs.YtbjidpooociamaaDoor
open Go.RowKit Lb
set_option maxRecDepth 100000 in
set_option maxHeartbeats 800000 in
theorem Minus_form (n1 n2 : Bool) (a b c d : Option Addr) (ca cb cc cd : Nat) (la lb lc ld : List Nat) (w : World) (hA : Arg2 w a ca la b cb lb) (hB : Arg2 w c cc lc d cd ld) :
    Calls Tryd.prog 53 #[.agg #[.bool n1, .slice a la.length ca, .slice b lb.length cb], .agg #[.bool n2, .slice c lc.length cc, .slice d ld.length cd]] w fun e w' => RatF w w' e (PG n1 (!n2) (val la * val ld) (val lc * val lb)) (PN n1 (!n2) (val la * val ld) (val lc * val lb)) (val lb * val ld) := by
  obtain ⟨W, hW, B1, B2, B3, kW, hsz⟩ := lay3 w (.bool n1) (.slice a la.length ca) (.slice b lb.length cb) (.bool (!n2)) (.slice c lc.length cc) (.slice d ld.length cd) (.bool false) (.slice none 0 0) (.slice none 0 0)
  have hP := Plus_form n1 (!n2) a b c d ca cb cc cd la lb lc ld W (hA.keep kW) (hB.keep kW)
  go_enter Tryd.func53, Tryd.ntmps53
  go_wp2_with fail
  rw [← hW]
  clear hW
  refine hP.mono ?_
  rintro e wC hC
  obtain ⟨an, cn, ln, ad, cm, lm, rfl, hfin, kC⟩ := hC.box kW (show w.heap.size ≤ w.heap.size + 1 + 1 by omega) B3
  have BC := B3.keep kC
  obtain ⟨z0, z1, z2⟩ := BC.cells
  have f0 := BC.free 0
  have f1 := BC.free 1
  have f2 := BC.free 2
  clear hP hC B1 B2 B3 BC
  generalize RS (PG n1 (!n2) (val la * val ld) (val lc * val lb)) (PN n1 (!n2) (val la * val ld) (val lc * val lb)) (val lb * val ld) = rs at hfin ⊢
  generalize RE (val lb * val ld) = re at hfin ⊢
  go_wp2_with fail
  refine bodyPost_ret (v := .tuple #[.agg #[.bool rs, .slice an ln.length cn, .slice ad lm.length cm], .int .i64 re]) (by simp [results, Tryd.results53, go_sem, World.cell?_setCell_other, World.cell?_setCell_same, z0, z1, z2]) rfl (hfin _ _ _)
set_option maxRecDepth 100000 in
set_option maxHeartbeats 800000 in
theorem rMinus_form (n1 n2 : Bool) (a b c d : Option Addr) (ca cb cc cd : Nat) (la lb lc ld : List Nat) (w : World) (hA : Arg2 w a ca la b cb lb) (hB : Arg2 w c cc lc d cd ld) :
    Calls Tryd.prog 57 #[.agg #[.bool n1, .slice a la.length ca, .slice b lb.length cb], .agg #[.bool n2, .slice c lc.length cc, .slice d ld.length cd]] w fun e w' => RatF w w' e (PG n1 (!n2) (val la * val ld) (val lc * val lb)) (PN n1 (!n2) (val la * val ld) (val lc * val lb)) (val lb * val ld) := by
  obtain ⟨W, hW, B1, B2, B3, kW, hsz⟩ := lay3 w (.bool n1) (.slice a la.length ca) (.slice b lb.length cb) (.bool (!n2)) (.slice c lc.length cc) (.slice d ld.length cd) (.bool false) (.slice none 0 0) (.slice none 0 0)
  have hP := rPlus_form n1 (!n2) a b c d ca cb cc cd la lb lc ld W (hA.keep kW) (hB.keep kW)
  go_enter Tryd.func57, Tryd.ntmps57
  go_wp2_with fail
  rw [← hW]
  clear hW
  refine hP.mono ?_
  rintro e wC hC
  obtain ⟨an, cn, ln, ad, cm, lm, rfl, hfin, kC⟩ := hC.box kW (show w.heap.size ≤ w.heap.size + 1 + 1 by omega) B3
  have BC := B3.keep kC
  obtain ⟨z0, z1, z2⟩ := BC.cells
  have f0 := BC.free 0
  have f1 := BC.free 1
  have f2 := BC.free 2
  clear hP hC B1 B2 B3 BC
  generalize RS (PG n1 (!n2) (val la * val ld) (val lc * val lb)) (PN n1 (!n2) (val la * val ld) (val lc * val lb)) (val lb * val ld) = rs at hfin ⊢
  generalize RE (val lb * val ld) = re at hfin ⊢
  go_wp2_with fail
  refine bodyPost_ret (v := .tuple #[.agg #[.bool rs, .slice an ln.length cn, .slice ad lm.length cm], .int .i64 re]) (by simp [results, Tryd.results57, go_sem, World.cell?_setCell_other, World.cell?_setCell_same, z0, z1, z2]) rfl (hfin _ _ _)
set_option maxRecDepth 100000 in
set_option maxHeartbeats 800000 in
theorem Alike_same (n1 : Bool) (a b c d : Option Addr) (ca cb cc cd : Nat) (la lb : List Nat) (w : World) (h1 : la.length ≤ 70368744177664) (h2 : lb.length ≤ 70368744177664) (ra : Rd w a la) (rb : Rd w b lb) (rc : Rd w c la) (rd : Rd w d lb) :
    Calls Tryd.prog 47 #[.agg #[.bool n1, .slice a la.length ca, .slice b lb.length cb], .agg #[.bool n1, .slice c la.length cc, .slice d lb.length cd]] w fun e w' => e = .returned (.bool true) ∧ Keep w w' := by
  obtain ⟨W, hW, B1, B2, kW⟩ := lay2 w (.bool n1) (.slice a la.length ca) (.slice b lb.length cb) (.bool n1) (.slice c la.length cc) (.slice d lb.length cd)
  go_enter Tryd.func47, Tryd.ntmps47
  go_wp2_with fail
  rw [← hW]
  clear hW
  refine (Same_any a c ca cc la W h1 (ra.keep kW) (rc.keep kW)).mono ?_
  rintro e w1 ⟨rfl, d1⟩
  have k1 := kW.trans d1.keep
  obtain ⟨x0, x1, x2⟩ := (B1.keep d1.keep).cells
  obtain ⟨y0, y1, y2⟩ := (B2.keep d1.keep).cells
  have hS := Same_any b d cb cd lb w1 h2 (rb.keep k1) (rd.keep k1)
  go_wp2_with fail
  refine hS.mono ?_
  rintro e w2 ⟨rfl, d2⟩
  go_wp2_with fail
  go_ret
  exact ⟨rfl, k1.trans d2.keep⟩
end Go.Proofs.YtbjidpooociamaaDoor
