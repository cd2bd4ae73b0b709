import Derived.Test.YtinjikoocegooaaGreatDoorProg
import Derived.Test.YtinjikoocegooaaGreatDoorLC10
import Derived.Test.YtinjikoocegooaaGreatDoorShelf
import Derived.Test.YtinjikoocegooaaGreatDoorZLK7
import Derived.WalkKit
import Derived.WalkSpells
import Derived.WalkLawsBesides
import Derived.Laws.CopyOwn
import Derived.Deep.Draws
import Derived.Deep.QuietTactic
import Derived.BigQuiet
import Derived.Laws.MathBits
import Derived.Shelf.Small.Bits
import Derived.Laws.BytesArg
import Derived.Lib.OthersKept
import Derived.Deep.RegionWith
import Derived.WalkMore
import Derived.Deep.LoopGhost
import Derived.Deep.RegionHeld3
set_option linter.unusedVariables false
set_option linter.unusedSimpArgs false
namespace Go.Proofs.YtinjikoocegooaaGreatDoor.Li
open Go.RowKit Lb
/-- A whole number as a quotient. -/
def WholeF (w w' : World) (e : Ending) (n : Int) : Prop :=
  ∃ an cn ln ad cd ld, e = .returned (.agg #[.bool (decide (n < 0)), .slice an (List.length ln) cn, .slice ad (List.length ld) cd]) ∧ ln.length ≤ cn ∧ ld.length ≤ cd ∧ Rd w' an ln ∧ Rd w' ad ld ∧ Lim ln ∧ Lim ld ∧ Nrm ln ∧ Nrm ld ∧ val ln = n.natAbs ∧ val ld = 1 ∧ TB w' an ∧ TB w' ad ∧ Keep w w'
set_option maxRecDepth 100000 in
set_option maxHeartbeats 800000 in
theorem Whole_form (n : Int) (w : World) (h1 : -9223372036854775808 ≤ n) (h2 : n ≤ 9223372036854775807) :
    Calls Tryz.prog 7 #[.int .i64 n] w fun e w' => WholeF w w' e n := by
  have hk : Keep w (w.alloc (Obj.cells #[Value.bool false, Value.slice none 0 0, Value.slice none 0 0] 36)) := (Keep.refl w).alloc _
  have hbox := Box.new w (Value.bool false) (Value.slice none 0 0) (Value.slice none 0 0)
  obtain ⟨m, hm⟩ : ∃ m, n.natAbs = m := ⟨_, rfl⟩
  have hF := fun wx => From_any m wx (by omega)
  have Hm : Hid (n.natAbs = m) := hm
  by_cases hneg : n < 0
  · have hd : decide (n < 0) = true := by simp; omega
    have q : IntKind.u64.wrap (-IntKind.u64.wrap n) = (m : Int) := by rw [IntKind.wrap_u64, IntKind.wrap_u64]; omega
    have Hd : Hid (decide (n < 0) = true) := hd
    clear hm
    go_enter Tryz.func7, Tryz.ntmps7
    go_wp2_with fail
    generalize w.alloc _ = w1 at hk hbox ⊢
    refine (hF w1).mono ?_
    rintro e w2 ⟨v2, l2, rfl, o2, m2, p2, e2, k2⟩
    obtain ⟨a2, c2, rfl, hc2, r2⟩ := o2.shape
    have hb2 := hbox.keep k2
    have hkx : Keep w2 (w2.alloc (Obj.cells #[Value.int IntKind.u32 1] 62)) := (Keep.refl w2).alloc _
    have hb3 := hb2.keep hkx
    have hnew : (w2.alloc (Obj.cells #[Value.int IntKind.u32 1] 62)).cell? ⟨w2.heap.size, 0, none⟩ = some (.int .u32 1) := by
      have h1 : (w2.alloc (Obj.cells #[Value.int IntKind.u32 1] 62)).heap[w2.heap.size]? = some (Obj.cells #[Value.int IntKind.u32 1] 62 (0, 0)) := heap_alloc_new w2 _
      rw [cell_of_row _ _ 0 _ 62 (0, 0) h1]; rfl
    have htb : TB (w2.alloc (Obj.cells #[Value.int IntKind.u32 1] 62)) (some ⟨w2.heap.size, 0, none⟩) := fun p e => by
      simp only [Option.some.injEq] at e
      subst e
      exact ⟨_, heap_alloc_new w2 _⟩
    obtain ⟨z0, z1, z2⟩ := hb3.cells
    have f0 := hb3.free 0
    have f1 := hb3.free 1
    have f2 := hb3.free 2
    go_wp2_with fail
    generalize w2.alloc _ = w3 at hkx hb3 hnew htb z0 z1 z2 ⊢
    have hk3 := (hk.trans k2).trans hkx
    refine bodyPost_ret (v := .agg #[.bool true, .slice a2 l2.length c2, .slice (some ⟨w2.heap.size, 0, none⟩) 1 1]) (by simp [results, Tryz.results7, go_sem, World.cell?_setCell_other, World.cell?_setCell_same, z0, z1, z2]) rfl ⟨a2, c2, l2, some ⟨w2.heap.size, 0, none⟩, 1, [1], by rw [Hd.out]; rfl, hc2, by simp, rd_box (r2.keep hkx) hb3 (by simp) (by simp) (by simp) _ _ _, rd_box (one_limb hnew) hb3 (by simp) (by simp) (by simp) _ _ _, m2, by intro x hx; simp at hx; omega, p2, by simp [Nrm], by rw [e2, Hm.out], by simp [val], (((((TB.of_res o2).keep hkx).set _ _ _).set _ _ _).set _ _ _), ((((show TB w3 (some ⟨w2.heap.size, 0, none⟩) from htb).set _ _ _).set _ _ _).set _ _ _), ?_⟩
    exact ((hk3.setCell (Nat.le_refl _) _).setCell (Nat.le_refl _) _).setCell (Nat.le_refl _) _
  · have hd : decide (n < 0) = false := by simp; omega
    have q : IntKind.u64.wrap n = (m : Int) := by rw [IntKind.wrap_u64]; omega
    have Hd : Hid (decide (n < 0) = false) := hd
    clear hm
    go_enter Tryz.func7, Tryz.ntmps7
    go_wp2_with fail
    generalize w.alloc _ = w1 at hk hbox ⊢
    refine (hF w1).mono ?_
    rintro e w2 ⟨v2, l2, rfl, o2, m2, p2, e2, k2⟩
    obtain ⟨a2, c2, rfl, hc2, r2⟩ := o2.shape
    have hb2 := hbox.keep k2
    have hkx : Keep w2 (w2.alloc (Obj.cells #[Value.int IntKind.u32 1] 62)) := (Keep.refl w2).alloc _
    have hb3 := hb2.keep hkx
    have hnew : (w2.alloc (Obj.cells #[Value.int IntKind.u32 1] 62)).cell? ⟨w2.heap.size, 0, none⟩ = some (.int .u32 1) := by
      have h1 : (w2.alloc (Obj.cells #[Value.int IntKind.u32 1] 62)).heap[w2.heap.size]? = some (Obj.cells #[Value.int IntKind.u32 1] 62 (0, 0)) := heap_alloc_new w2 _
      rw [cell_of_row _ _ 0 _ 62 (0, 0) h1]; rfl
    have htb : TB (w2.alloc (Obj.cells #[Value.int IntKind.u32 1] 62)) (some ⟨w2.heap.size, 0, none⟩) := fun p e => by
      simp only [Option.some.injEq] at e
      subst e
      exact ⟨_, heap_alloc_new w2 _⟩
    obtain ⟨z0, z1, z2⟩ := hb3.cells
    have f0 := hb3.free 0
    have f1 := hb3.free 1
    have f2 := hb3.free 2
    go_wp2_with fail
    generalize w2.alloc _ = w3 at hkx hb3 hnew htb z0 z1 z2 ⊢
    have hk3 := (hk.trans k2).trans hkx
    refine bodyPost_ret (v := .agg #[.bool false, .slice a2 l2.length c2, .slice (some ⟨w2.heap.size, 0, none⟩) 1 1]) (by simp [results, Tryz.results7, go_sem, World.cell?_setCell_other, World.cell?_setCell_same, z0, z1, z2]) rfl ⟨a2, c2, l2, some ⟨w2.heap.size, 0, none⟩, 1, [1], by rw [Hd.out]; rfl, hc2, by simp, rd_box (r2.keep hkx) hb3 (by simp) (by simp) (by simp) _ _ _, rd_box (one_limb hnew) hb3 (by simp) (by simp) (by simp) _ _ _, m2, by intro x hx; simp at hx; omega, p2, by simp [Nrm], by rw [e2, Hm.out], by simp [val], (((((TB.of_res o2).keep hkx).set _ _ _).set _ _ _).set _ _ _), ((((show TB w3 (some ⟨w2.heap.size, 0, none⟩) from htb).set _ _ _).set _ _ _).set _ _ _), ?_⟩
    exact ((hk3.setCell (Nat.le_refl _) _).setCell (Nat.le_refl _) _).setCell (Nat.le_refl _) _
end Go.Proofs.YtinjikoocegooaaGreatDoor.Li
set_option linter.unusedVariables false
set_option linter.unusedSimpArgs false
namespace Go.Proofs.YtinjikoocegooaaGreatDoor.Li
open Go.RowKit Lb
set_option maxRecDepth 100000 in
set_option maxHeartbeats 800000 in
theorem below_any (n1 : Bool) (a b : Option Addr) (ca cb : Nat) (la lb : List Nat) (w : World) (hA : Arg2 w a ca la b cb lb) :
    Calls Tryz.prog 22 #[.agg #[.bool n1, .slice a la.length ca, .slice b lb.length cb]] w fun e w' => e = .returned (.bool (n1 && !decide (val la = 0))) ∧ Keep w w' := by
  have hk : ∀ x, Keep w (w.alloc (Obj.cells #[Value.bool x, Value.slice a la.length ca, Value.slice b lb.length cb] 36)) := fun x => (Keep.refl w).alloc _
  have hN := fun wx (hk : Keep w wx) => isNought_any a ca la wx hA.hca (by have := hA.hla; omega) (hA.hra.keep hk)
  cases n1
  · go_enter Tryz.func22, Tryz.ntmps22
    go_wp2_with fail
    go_ret
    exact ⟨rfl, hk _⟩
  · generalize decide (val la = 0) = z at hN ⊢
    go_enter Tryz.func22, Tryz.ntmps22
    go_wp2_with fail
    refine (hN _ (hk _)).mono ?_
    rintro e w1 ⟨rfl, rfl⟩
    go_wp2_with fail
    go_ret
    exact ⟨rfl, hk _⟩
/-- How two quotients compare. -/
def ordV (x y : Bool) (L R : Nat) : Int := if x != y then sgn x else if x then cmpN R L else cmpN L R
set_option maxRecDepth 100000 in
set_option maxHeartbeats 1600000 in
theorem Order_some (n1 n2 : Bool) (a b c d : Option Addr) (ca cb cc cd : Nat) (la lb lc ld : List Nat) (w : World) (hA : Arg2 w a ca la b cb lb) (hB : Arg2 w c cc lc d cd ld) (h0 : val lb ≠ 0) (h1 : val ld ≠ 0) :
    Calls Tryz.prog 9 #[.agg #[.bool n1, .slice a la.length ca, .slice b lb.length cb], .agg #[.bool n2, .slice c lc.length cc, .slice d ld.length cd]] w fun e w' => e = .returned (.tuple #[.int .i64 (ordV (n1 && !decide (val la = 0)) (n2 && !decide (val lc = 0)) (val la * val ld) (val lc * val lb)), .int .i64 0]) ∧ Keep w w' := by
  obtain ⟨W, hW, B1, B2, kW⟩ := lay2 w (.bool n1) (.slice a la.length ca) (.slice b lb.length cb) (.bool n2) (.slice c lc.length cc) (.slice d ld.length cd)
  have N1 := fun wx (hk : Keep w wx) => isNought_any b cb lb wx hA.hcb (by have := hA.hlb; omega) (hA.hrb.keep hk)
  have N2 := fun wx (hk : Keep w wx) => isNought_any d cd ld wx hB.hcb (by have := hB.hlb; omega) (hB.hrb.keep hk)
  rw [decide_eq_false h0] at N1
  rw [decide_eq_false h1] at N2
  have W1 := fun wx (hk : Keep w wx) => below_any n1 a b ca cb la lb wx (hA.keep hk)
  have W2 := fun wx (hk : Keep w wx) => below_any n2 c d cc cd lc ld wx (hB.keep hk)
  have C1 := fun wx (hk : Keep w wx) => crossed_any n1 n2 a b c d ca cb cc cd la lb lc ld wx (hA.keep hk) (hB.keep hk)
  have q1 := hA.hla
  have q2 := hA.hlb
  have q3 := hB.hla
  have q4 := hB.hlb
  obtain ⟨x, hx⟩ : ∃ x, (n1 && !decide (val la = 0)) = x := ⟨_, rfl⟩
  obtain ⟨y, hy⟩ : ∃ y, (n2 && !decide (val lc = 0)) = y := ⟨_, rfl⟩
  rw [hx] at W1
  rw [hy] at W2
  have Hx : Hid ((n1 && !decide (val la = 0)) = x) := hx
  have Hy : Hid ((n2 && !decide (val lc = 0)) = y) := hy
  clear hx hy h0 h1
  go_enter Tryz.func9, Tryz.ntmps9
  go_wp2_with fail
  rw [← hW]
  clear hW
  refine (N1 W kW).mono ?_
  rintro e w' ⟨rfl, hw'⟩
  have hw' := hw'.symm
  subst hw'
  obtain ⟨x0, x1, x2⟩ := B1.cells
  obtain ⟨x3, x4, x5⟩ := B2.cells
  go_wp2_with fail
  refine (N2 W kW).mono ?_
  rintro e w' ⟨rfl, hw'⟩
  have hw' := hw'.symm
  subst hw'
  go_wp2_with fail
  have kd : Keep w W.drew := kW.drew
  obtain ⟨g, hg⟩ : ∃ g, w.heap.size = g := ⟨_, rfl⟩
  rw [hg] at x0 x1 x2 x3 x4 x5
  rw [hg]
  clear hg B1 B2 N1 N2
  go_region_held3 (fun w' => w'.cell? ⟨g, 0, none⟩ = some (Value.bool n1) ∧ w'.cell? ⟨g, 1, none⟩ = some (Value.slice a la.length ca) ∧ w'.cell? ⟨g, 2, none⟩ = some (Value.slice b lb.length cb) ∧ w'.cell? ⟨g + 1, 0, none⟩ = some (Value.bool n2) ∧ w'.cell? ⟨g + 1, 1, none⟩ = some (Value.slice c lc.length cc) ∧ w'.cell? ⟨g + 1, 2, none⟩ = some (Value.slice d ld.length cd)) (go_keep) (first
    | (go_at_call_of 22 (Value.slice a la.length ca); refine (W1 _ ?_).mono ?_; exact kd; rintro e wA ⟨rfl, kA⟩; have k1 := kd.trans kA; have s0 := Keep.cell kA x0; have s1 := Keep.cell kA x1; have s2 := Keep.cell kA x2; have s3 := Keep.cell kA x3; have s4 := Keep.cell kA x4; have s5 := Keep.cell kA x5)
    | (go_at_call_of 22 (Value.slice c lc.length cc); refine (W2 _ ?_).mono ?_; exact k1; rintro e wB ⟨rfl, kB⟩; have k2 := k1.trans kB; have t0 := Keep.cell kB s0; have t1 := Keep.cell kB s1; have t2 := Keep.cell kB s2; have t3 := Keep.cell kB s3; have t4 := Keep.cell kB s4; have t5 := Keep.cell kB s5))
  clear W1 W2
  go_simp
  go_wp2_with fail
  refine (C1 wB k2).mono ?_
  rintro e wC ⟨vL, vR, rfl, nL, nR, kC⟩
  obtain ⟨aL, cL, lL, rfl, hcL, rL, mL, pL, eL, -⟩ := nL.shape
  obtain ⟨aR, cR, lR, rfl, hcR, rR, mR, pR, eR, -⟩ := nR.shape
  have jL := mul_few hA.hma hB.hmb pL eL
  have jR := mul_few hB.hma hA.hmb pR eR
  have k3 := k2.trans kC
  have P1 := compare_any aL aR cL cR lL lR wC (by omega) (by omega) rL rR
  rw [cmpL_eq lL lR mL mR pL pR, eL, eR] at P1
  have P2 := compare_any aR aL cR cL lR lL wC (by omega) (by omega) rR rL
  rw [cmpL_eq lR lL mR mL pR pL, eL, eR] at P2
  have S1 := fun t => sign_any t wC
  clear C1 nL nR eL eR
  cases x
  · cases y
    · have HV : Hid (ordV (n1 && !decide (val la = 0)) (n2 && !decide (val lc = 0)) (val la * val ld) (val lc * val lb) = cmpN (val la * val ld) (val lc * val lb)) := by show _ = _; rw [Hx.out, Hy.out]; rfl
      generalize cmpN (val la * val ld) (val lc * val lb) = z at P1 HV
      go_wp2_with fail
      refine P1.mono ?_
      rintro e w4 ⟨rfl, d4⟩
      go_wp2_with fail
      go_ret2
      exact ⟨by rw [HV.out]; rfl, k3.trans d4.keep⟩
    · have HV : Hid (ordV (n1 && !decide (val la = 0)) (n2 && !decide (val lc = 0)) (val la * val ld) (val lc * val lb) = sgn false) := by show _ = _; rw [Hx.out, Hy.out]; rfl
      go_wp2_with fail
      refine (S1 false).mono ?_
      rintro e w4 ⟨rfl, rfl⟩
      go_wp2_with fail
      go_ret2
      exact ⟨by rw [HV.out]; rfl, k3⟩
  · cases y
    · have HV : Hid (ordV (n1 && !decide (val la = 0)) (n2 && !decide (val lc = 0)) (val la * val ld) (val lc * val lb) = sgn true) := by show _ = _; rw [Hx.out, Hy.out]; rfl
      go_wp2_with fail
      refine (S1 true).mono ?_
      rintro e w4 ⟨rfl, rfl⟩
      go_wp2_with fail
      go_ret2
      exact ⟨by rw [HV.out]; rfl, k3⟩
    · have HV : Hid (ordV (n1 && !decide (val la = 0)) (n2 && !decide (val lc = 0)) (val la * val ld) (val lc * val lb) = cmpN (val lc * val lb) (val la * val ld)) := by show _ = _; rw [Hx.out, Hy.out]; rfl
      generalize cmpN (val lc * val lb) (val la * val ld) = z at P2 HV
      go_wp2_with fail
      refine P2.mono ?_
      rintro e w4 ⟨rfl, d4⟩
      go_wp2_with fail
      go_ret2
      exact ⟨by rw [HV.out]; rfl, k3.trans d4.keep⟩
end Go.Proofs.YtinjikoocegooaaGreatDoor.Li
set_option linter.unusedVariables false
set_option linter.unusedSimpArgs false
namespace Go.Proofs.YtinjikoocegooaaGreatDoor.Li
open Go.RowKit Lb
/-- A quotient as a value. -/
def Qt (w : World) (x y z : Value) (s : Bool) (n d : Nat) : Prop :=
  ∃ an cn ln ad cd ld, x = .bool s ∧ y = .slice an (List.length ln) cn ∧ z = .slice ad (List.length ld) cd ∧ Arg2 w an cn ln ad cd ld ∧ Nrm ln ∧ Nrm ld ∧ val ln = n ∧ val ld = d ∧ TB w an ∧ TB w ad
theorem Qt.keep {w w' : World} {x y z : Value} {s : Bool} {n d : Nat} (h : Qt w x y z s n d) (k : Keep w w') : Qt w' x y z s n d := by
  obtain ⟨an, cn, ln, ad, cd, ld, h1, h2, h3, hA, n1, n2, e1, e2, b1, b2⟩ := h
  exact ⟨an, cn, ln, ad, cd, ld, h1, h2, h3, hA.keep k, n1, n2, e1, e2, b1.keep k, b2.keep k⟩
theorem RN_le2 (N D : Nat) : RN N D ≤ N := by
  unfold RN
  split
  · omega
  · exact Nat.div_le_self _ _
theorem RD_le2 (N D : Nat) : RD N D ≤ D := by
  unfold RD
  split
  · omega
  · exact Nat.div_le_self _ _
theorem big_le {n : Nat} (h : n < 4294967296 ^ 8) {l : List Nat} (hn : Nrm l) (e : val l ≤ n) : l.length ≤ 16777216 := by
  have := len_le_pow hn 8 (Nat.lt_of_le_of_lt e h)
  omega
theorem RatF.qt {w w' : World} {e : Ending} {neg : Bool} {N D : Nat} (h : RatF w w' e neg N D) (hN : N < 4294967296 ^ 8) (hD : D < 4294967296 ^ 8) : ∃ x y z, e = .returned (.tuple #[.agg #[x, y, z], .int .i64 (RE D)]) ∧ Qt w' x y z (RS neg N D) (RN N D) (RD N D) ∧ Keep w w' := by
  obtain ⟨an, cn, ln, ad, cd, ld, rfl, g1, g2, r1, r2, q1, q2, n1, n2, e1, e2, b1, b2, k⟩ := h
  exact ⟨_, _, _, rfl, ⟨an, cn, ln, ad, cd, ld, rfl, rfl, rfl, ⟨g1, g2, big_le hN n1 (by rw [e1]; exact RN_le2 _ _), big_le hD n2 (by rw [e2]; exact RD_le2 _ _), r1, r2, q1, q2⟩, n1, n2, e1, e2, b1, b2⟩, k⟩
theorem Whole_q (n : Int) (w : World) (h1 : -9223372036854775808 ≤ n) (h2 : n ≤ 9223372036854775807) :
    Calls Tryz.prog 7 #[.int .i64 n] w fun e w' => ∃ x y z, e = .returned (.agg #[x, y, z]) ∧ Qt w' x y z (decide (n < 0)) n.natAbs 1 ∧ Keep w w' := by
  refine (Whole_form n w h1 h2).mono ?_
  rintro e w' ⟨an, cn, ln, ad, cd, ld, rfl, g1, g2, r1, r2, q1, q2, n1, n2, e1, e2, b1, b2, k⟩
  have hb : (9223372036854775808 : Nat) < 4294967296 ^ 8 := by decide
  exact ⟨_, _, _, rfl, ⟨an, cn, ln, ad, cd, ld, rfl, rfl, rfl, ⟨g1, g2, big_le hb n1 (by omega), big_le hb n2 (by omega), r1, r2, q1, q2⟩, n1, n2, e1, e2, b1, b2⟩, k⟩
theorem Plus_q {x1 y1 z1 x2 y2 z2 : Value} {s1 s2 : Bool} {n1 d1 n2 d2 : Nat} (w : World) (hA : Qt w x1 y1 z1 s1 n1 d1) (hB : Qt w x2 y2 z2 s2 n2 d2) (b1 : PN s1 s2 (n1 * d2) (n2 * d1) < 4294967296 ^ 8) (b2 : d1 * d2 < 4294967296 ^ 8) :
    Calls Tryz.prog 13 #[.agg #[x1, y1, z1], .agg #[x2, y2, z2]] w fun e w' => ∃ x y z, e = .returned (.tuple #[.agg #[x, y, z], .int .i64 (RE (d1 * d2))]) ∧ Qt w' x y z (RS (PG s1 s2 (n1 * d2) (n2 * d1)) (PN s1 s2 (n1 * d2) (n2 * d1)) (d1 * d2)) (RN (PN s1 s2 (n1 * d2) (n2 * d1)) (d1 * d2)) (RD (PN s1 s2 (n1 * d2) (n2 * d1)) (d1 * d2)) ∧ Keep w w' := by
  obtain ⟨a, ca, la, b, cb, lb, rfl, rfl, rfl, A, -, -, rfl, rfl, -, -⟩ := hA
  obtain ⟨c, cc, lc, d, cd, ld, rfl, rfl, rfl, B, -, -, rfl, rfl, -, -⟩ := hB
  exact (Plus_form s1 s2 a b c d ca cb cc cd la lb lc ld w A B).mono fun e w' h => h.qt b1 b2
theorem Order_q {x1 y1 z1 x2 y2 z2 : Value} {s1 s2 : Bool} {n1 d1 n2 d2 : Nat} (w : World) (hA : Qt w x1 y1 z1 s1 n1 d1) (hB : Qt w x2 y2 z2 s2 n2 d2) (h1 : d1 ≠ 0) (h2 : d2 ≠ 0) :
    Calls Tryz.prog 9 #[.agg #[x1, y1, z1], .agg #[x2, y2, z2]] w fun e w' => e = .returned (.tuple #[.int .i64 (ordV (s1 && !decide (n1 = 0)) (s2 && !decide (n2 = 0)) (n1 * d2) (n2 * d1)), .int .i64 0]) ∧ Keep w w' := by
  obtain ⟨a, ca, la, b, cb, lb, rfl, rfl, rfl, A, -, -, rfl, rfl, -, -⟩ := hA
  obtain ⟨c, cc, lc, d, cd, ld, rfl, rfl, rfl, B, -, -, rfl, rfl, -, -⟩ := hB
  exact Order_some s1 s2 a b c d ca cb cc cd la lb lc ld w A B h1 h2
end Go.Proofs.YtinjikoocegooaaGreatDoor.Li
