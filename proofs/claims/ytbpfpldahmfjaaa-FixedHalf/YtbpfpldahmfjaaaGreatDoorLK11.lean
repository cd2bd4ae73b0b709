import Derived.Test.YtbpfpldahmfjaaaGreatDoorProg
import Derived.Test.YtbpfpldahmfjaaaGreatDoorLK10
import Derived.WalkKit
import Derived.WalkSpells
import Derived.WalkLawsBesides
import Derived.Laws.CopyOwn
import Derived.Deep.Draws
import Derived.Deep.QuietTactic
import Derived.BigQuiet
import Derived.Laws.MathBits
import Derived.Laws.BytesArg
import Derived.Lib.OthersKept
import Derived.Deep.RegionWith
import Derived.WalkMore
import Derived.Deep.LoopGhost
import Derived.Deep.RegionHeld3
set_option linter.unusedVariables false
set_option linter.unusedSimpArgs false
namespace Go.Proofs.YtbpfpldahmfjaaaGreatDoor.Li
open Go.RowKit Lb
set_option maxRecDepth 100000 in
set_option maxHeartbeats 800000 in
theorem below_any (n1 : Bool) (a b : Option Addr) (ca cb : Nat) (la lb : List Nat) (w : World) (hA : Arg2 w a ca la b cb lb) :
    Calls Tryz.prog 41 #[.agg #[.bool n1, .slice a la.length ca, .slice b lb.length cb]] w fun e w' => e = .returned (.bool (n1 && !decide (val la = 0))) ∧ Keep w w' := by
  have hk : ∀ x, Keep w (w.alloc (Obj.cells #[Value.bool x, Value.slice a la.length ca, Value.slice b lb.length cb] 37)) := fun x => (Keep.refl w).alloc _
  have hN := fun wx (hk : Keep w wx) => isNought_any a ca la wx hA.hca (by have := hA.hla; omega) (hA.hra.keep hk)
  cases n1
  · go_enter Tryz.func41, Tryz.ntmps41
    go_wp2_with fail
    go_ret
    exact ⟨rfl, hk _⟩
  · generalize decide (val la = 0) = z at hN ⊢
    go_enter Tryz.func41, Tryz.ntmps41
    go_wp2_with fail
    refine (hN _ (hk _)).mono ?_
    rintro e w1 ⟨rfl, rfl⟩
    go_wp2_with fail
    go_ret
    exact ⟨rfl, hk _⟩
/-- How two quotients compare. -/
def ordV (x y : Bool) (L R : Nat) : Int := if x != y then sgn x else if x then cmpN R L else cmpN L R
set_option maxRecDepth 100000 in
set_option maxHeartbeats 1600000 in
theorem Order_some (n1 n2 : Bool) (a b c d : Option Addr) (ca cb cc cd : Nat) (la lb lc ld : List Nat) (w : World) (hA : Arg2 w a ca la b cb lb) (hB : Arg2 w c cc lc d cd ld) (h0 : val lb ≠ 0) (h1 : val ld ≠ 0) :
    Calls Tryz.prog 19 #[.agg #[.bool n1, .slice a la.length ca, .slice b lb.length cb], .agg #[.bool n2, .slice c lc.length cc, .slice d ld.length cd]] w fun e w' => e = .returned (.tuple #[.int .i64 (ordV (n1 && !decide (val la = 0)) (n2 && !decide (val lc = 0)) (val la * val ld) (val lc * val lb)), .int .i64 0]) ∧ Keep w w' := by
  obtain ⟨W, hW, B1, B2, kW⟩ := lay2 w (.bool n1) (.slice a la.length ca) (.slice b lb.length cb) (.bool n2) (.slice c lc.length cc) (.slice d ld.length cd)
  have N1 := fun wx (hk : Keep w wx) => isNought_any b cb lb wx hA.hcb (by have := hA.hlb; omega) (hA.hrb.keep hk)
  have N2 := fun wx (hk : Keep w wx) => isNought_any d cd ld wx hB.hcb (by have := hB.hlb; omega) (hB.hrb.keep hk)
  rw [decide_eq_false h0] at N1
  rw [decide_eq_false h1] at N2
  have W1 := fun wx (hk : Keep w wx) => below_any n1 a b ca cb la lb wx (hA.keep hk)
  have W2 := fun wx (hk : Keep w wx) => below_any n2 c d cc cd lc ld wx (hB.keep hk)
  have C1 := fun wx (hk : Keep w wx) => crossed_any n1 n2 a b c d ca cb cc cd la lb lc ld wx (hA.keep hk) (hB.keep hk)
  have q1 := hA.hla
  have q2 := hA.hlb
  have q3 := hB.hla
  have q4 := hB.hlb
  obtain ⟨x, hx⟩ : ∃ x, (n1 && !decide (val la = 0)) = x := ⟨_, rfl⟩
  obtain ⟨y, hy⟩ : ∃ y, (n2 && !decide (val lc = 0)) = y := ⟨_, rfl⟩
  rw [hx] at W1
  rw [hy] at W2
  have Hx : Hid ((n1 && !decide (val la = 0)) = x) := hx
  have Hy : Hid ((n2 && !decide (val lc = 0)) = y) := hy
  clear hx hy h0 h1
  go_enter Tryz.func19, Tryz.ntmps19
  go_wp2_with fail
  rw [← hW]
  clear hW
  refine (N1 W kW).mono ?_
  rintro e w' ⟨rfl, hw'⟩
  have hw' := hw'.symm
  subst hw'
  obtain ⟨x0, x1, x2⟩ := B1.cells
  obtain ⟨x3, x4, x5⟩ := B2.cells
  go_wp2_with fail
  refine (N2 W kW).mono ?_
  rintro e w' ⟨rfl, hw'⟩
  have hw' := hw'.symm
  subst hw'
  go_wp2_with fail
  have kd : Keep w W.drew := kW.drew
  obtain ⟨g, hg⟩ : ∃ g, w.heap.size = g := ⟨_, rfl⟩
  rw [hg] at x0 x1 x2 x3 x4 x5
  rw [hg]
  clear hg B1 B2 N1 N2
  go_region_held3 (fun w' => w'.cell? ⟨g, 0, none⟩ = some (Value.bool n1) ∧ w'.cell? ⟨g, 1, none⟩ = some (Value.slice a la.length ca) ∧ w'.cell? ⟨g, 2, none⟩ = some (Value.slice b lb.length cb) ∧ w'.cell? ⟨g + 1, 0, none⟩ = some (Value.bool n2) ∧ w'.cell? ⟨g + 1, 1, none⟩ = some (Value.slice c lc.length cc) ∧ w'.cell? ⟨g + 1, 2, none⟩ = some (Value.slice d ld.length cd)) (go_keep) (first
    | (go_at_call_of 41 (Value.slice a la.length ca); refine (W1 _ ?_).mono ?_; exact kd; rintro e wA ⟨rfl, kA⟩; have k1 := kd.trans kA; have s0 := Keep.cell kA x0; have s1 := Keep.cell kA x1; have s2 := Keep.cell kA x2; have s3 := Keep.cell kA x3; have s4 := Keep.cell kA x4; have s5 := Keep.cell kA x5)
    | (go_at_call_of 41 (Value.slice c lc.length cc); refine (W2 _ ?_).mono ?_; exact k1; rintro e wB ⟨rfl, kB⟩; have k2 := k1.trans kB; have t0 := Keep.cell kB s0; have t1 := Keep.cell kB s1; have t2 := Keep.cell kB s2; have t3 := Keep.cell kB s3; have t4 := Keep.cell kB s4; have t5 := Keep.cell kB s5))
  clear W1 W2
  go_simp
  go_wp2_with fail
  refine (C1 wB k2).mono ?_
  rintro e wC ⟨vL, vR, rfl, nL, nR, kC⟩
  obtain ⟨aL, cL, lL, rfl, hcL, rL, mL, pL, eL, -⟩ := nL.shape
  obtain ⟨aR, cR, lR, rfl, hcR, rR, mR, pR, eR, -⟩ := nR.shape
  have jL := mul_few hA.hma hB.hmb pL eL
  have jR := mul_few hB.hma hA.hmb pR eR
  have k3 := k2.trans kC
  have P1 := compare_any aL aR cL cR lL lR wC (by omega) (by omega) rL rR
  rw [cmpL_eq lL lR mL mR pL pR, eL, eR] at P1
  have P2 := compare_any aR aL cR cL lR lL wC (by omega) (by omega) rR rL
  rw [cmpL_eq lR lL mR mL pR pL, eL, eR] at P2
  have S1 := fun t => sign_any t wC
  clear C1 nL nR eL eR
  cases x
  · cases y
    · have HV : Hid (ordV (n1 && !decide (val la = 0)) (n2 && !decide (val lc = 0)) (val la * val ld) (val lc * val lb) = cmpN (val la * val ld) (val lc * val lb)) := by show _ = _; rw [Hx.out, Hy.out]; rfl
      generalize cmpN (val la * val ld) (val lc * val lb) = z at P1 HV
      go_wp2_with fail
      refine P1.mono ?_
      rintro e w4 ⟨rfl, d4⟩
      go_wp2_with fail
      go_ret2
      exact ⟨by rw [HV.out]; rfl, k3.trans d4.keep⟩
    · have HV : Hid (ordV (n1 && !decide (val la = 0)) (n2 && !decide (val lc = 0)) (val la * val ld) (val lc * val lb) = sgn false) := by show _ = _; rw [Hx.out, Hy.out]; rfl
      go_wp2_with fail
      refine (S1 false).mono ?_
      rintro e w4 ⟨rfl, rfl⟩
      go_wp2_with fail
      go_ret2
      exact ⟨by rw [HV.out]; rfl, k3⟩
  · cases y
    · have HV : Hid (ordV (n1 && !decide (val la = 0)) (n2 && !decide (val lc = 0)) (val la * val ld) (val lc * val lb) = sgn true) := by show _ = _; rw [Hx.out, Hy.out]; rfl
      go_wp2_with fail
      refine (S1 true).mono ?_
      rintro e w4 ⟨rfl, rfl⟩
      go_wp2_with fail
      go_ret2
      exact ⟨by rw [HV.out]; rfl, k3⟩
    · have HV : Hid (ordV (n1 && !decide (val la = 0)) (n2 && !decide (val lc = 0)) (val la * val ld) (val lc * val lb) = cmpN (val lc * val lb) (val la * val ld)) := by show _ = _; rw [Hx.out, Hy.out]; rfl
      generalize cmpN (val lc * val lb) (val la * val ld) = z at P2 HV
      go_wp2_with fail
      refine P2.mono ?_
      rintro e w4 ⟨rfl, d4⟩
      go_wp2_with fail
      go_ret2
      exact ⟨by rw [HV.out]; rfl, k3.trans d4.keep⟩
set_option maxRecDepth 100000 in
set_option maxHeartbeats 400000 in
theorem Order_none (n1 n2 : Bool) (a b c d : Option Addr) (ca cb cc cd : Nat) (la lb lc ld : List Nat) (w : World) (hA : Arg2 w a ca la b cb lb) (hB : Arg2 w c cc lc d cd ld) (h0 : val lb = 0 ∨ val ld = 0) :
    Calls Tryz.prog 19 #[.agg #[.bool n1, .slice a la.length ca, .slice b lb.length cb], .agg #[.bool n2, .slice c lc.length cc, .slice d ld.length cd]] w fun e w' => e = .returned (.tuple #[.int .i64 0, .int .i64 11]) ∧ Keep w w' := by
  obtain ⟨W, hW, B1, B2, kW⟩ := lay2 w (.bool n1) (.slice a la.length ca) (.slice b lb.length cb) (.bool n2) (.slice c lc.length cc) (.slice d ld.length cd)
  have N1 := fun wx (hk : Keep w wx) => isNought_any b cb lb wx hA.hcb (by have := hA.hlb; omega) (hA.hrb.keep hk)
  have N2 := fun wx (hk : Keep w wx) => isNought_any d cd ld wx hB.hcb (by have := hB.hlb; omega) (hB.hrb.keep hk)
  obtain ⟨x0, x1, x2⟩ := B1.cells
  obtain ⟨x3, x4, x5⟩ := B2.cells
  by_cases h : val lb = 0
  · rw [decide_eq_true h] at N1
    clear h h0
    go_enter Tryz.func19, Tryz.ntmps19
    go_wp2_with fail
    rw [← hW]
    clear hW
    refine (N1 W kW).mono ?_
    rintro e w' ⟨rfl, hw'⟩
    have hw' := hw'.symm
    subst hw'
    go_wp2_with fail
    go_ret2
    exact ⟨rfl, kW⟩
  · rw [decide_eq_false h] at N1
    have h1 : val ld = 0 := by rcases h0 with h2 | h2; exact absurd h2 h; exact h2
    rw [decide_eq_true h1] at N2
    clear h h0 h1
    go_enter Tryz.func19, Tryz.ntmps19
    go_wp2_with fail
    rw [← hW]
    clear hW
    refine (N1 W kW).mono ?_
    rintro e w' ⟨rfl, hw'⟩
    have hw' := hw'.symm
    subst hw'
    go_wp2_with fail
    refine (N2 W kW).mono ?_
    rintro e w' ⟨rfl, hw'⟩
    have hw' := hw'.symm
    subst hw'
    go_wp2_with fail
    go_ret2
    exact ⟨rfl, kW⟩
end Go.Proofs.YtbpfpldahmfjaaaGreatDoor.Li
