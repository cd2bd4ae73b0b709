import Derived.Test.YtpdjpjkieafnbaaGreatDoorProg
import Derived.Test.YtpdjpjkieafnbaaGreatDoorLK1
import Derived.WalkKit
import Derived.WalkSpells
import Derived.WalkLawsBesides
import Derived.Laws.CopyOwn
import Derived.Deep.Draws
import Derived.Deep.QuietTactic
import Derived.BigQuiet
import Derived.Laws.MathBits
import Derived.Laws.BytesArg
import Derived.Lib.OthersKept
import Derived.Deep.RegionWith
import Derived.WalkMore
import Derived.Deep.LoopGhost
import Derived.Deep.RegionHeld3
import Derived.Test.YtpdjpjkieafnbaaGreatDoorLD6
set_option linter.unusedVariables false
set_option linter.unusedSimpArgs false
namespace Go.Proofs.YtpdjpjkieafnbaaGreatDoor.Li
open Go.RowKit Lb
theorem Own.rd {B : Nat} {w : World} {a : Option Addr} {c : Nat} {l : List Nat} (h : Own B w (.slice a l.length c) l) : Rd w a l := by
  obtain ⟨a5, c5, e5, hc5, r5⟩ := h.shape
  simp only [Value.slice.injEq, true_and] at e5
  rw [e5.1]; exact r5
/-- A slice of its own behind a store into a quotient's variable. -/
theorem Own.box {B g : Nat} {w : World} {a : Option Addr} {c : Nat} {l : List Nat} (h : Own B w (.slice a l.length c) l) (hg : g < B) (x y z : Value) : Rd (((w.setCell ⟨g, 0, none⟩ x).setCell ⟨g, 1, none⟩ y).setCell ⟨g, 2, none⟩ z) a l :=
  (((h.mut ((Mut.refl g w).setCell 0 x) hg).mut ((Mut.refl g _).setCell 1 y) hg).mut ((Mut.refl g _).setCell 2 z) hg).rd
end Go.Proofs.YtpdjpjkieafnbaaGreatDoor.Li
set_option linter.unusedVariables false
set_option linter.unusedSimpArgs false
namespace Go.Proofs.YtpdjpjkieafnbaaGreatDoor.Li
open Go.RowKit Lb
/-- A quotient that came in: two naturals that can be read. -/
structure Arg2 (w : World) (a : Option Addr) (ca : Nat) (la : List Nat) (b : Option Addr) (cb : Nat) (lb : List Nat) : Prop where
  hca : la.length ≤ ca
  hcb : lb.length ≤ cb
  hla : la.length ≤ 35184372088000
  hlb : lb.length ≤ 35184372088000
  hra : Rd w a la
  hrb : Rd w b lb
  hma : Lim la
  hmb : Lim lb
theorem Arg2.keep {w w' : World} {a : Option Addr} {ca : Nat} {la : List Nat} {b : Option Addr} {cb : Nat} {lb : List Nat} (h : Arg2 w a ca la b cb lb) (k : Keep w w') : Arg2 w' a ca la b cb lb :=
  ⟨h.hca, h.hcb, h.hla, h.hlb, h.hra.keep k, h.hrb.keep k, h.hma, h.hmb⟩
/-- Two quotients' variables, and one for what is answered. -/
theorem lay3 (w : World) (x0 x1 x2 y0 y1 y2 z0 z1 z2 : Value) : ∃ W, W = ((w.alloc (Obj.cells #[x0, x1, x2] 54)).alloc (Obj.cells #[y0, y1, y2] 54)).alloc (Obj.cells #[z0, z1, z2] 54) ∧
    Box W w.heap.size x0 x1 x2 ∧ Box W (w.heap.size + 1) y0 y1 y2 ∧ Box W (w.heap.size + 1 + 1) z0 z1 z2 ∧ Keep w W ∧ w.heap.size + 1 + 1 < W.heap.size := by
  refine ⟨_, rfl, ?_, ?_, ?_, (((Keep.refl w).alloc _).alloc _).alloc _, by simp⟩
  · exact ((Box.new w x0 x1 x2).keep ((Keep.refl _).alloc _)).keep ((Keep.refl _).alloc _)
  · have := (Box.new (w.alloc (Obj.cells #[x0, x1, x2] 54)) y0 y1 y2).keep ((Keep.refl _).alloc (Obj.cells #[z0, z1, z2] 54))
    simpa using this
  · have := Box.new ((w.alloc (Obj.cells #[x0, x1, x2] 54)).alloc (Obj.cells #[y0, y1, y2] 54)) z0 z1 z2
    simpa using this
theorem lay2 (w : World) (x0 x1 x2 y0 y1 y2 : Value) : ∃ W, W = (w.alloc (Obj.cells #[x0, x1, x2] 54)).alloc (Obj.cells #[y0, y1, y2] 54) ∧
    Box W w.heap.size x0 x1 x2 ∧ Box W (w.heap.size + 1) y0 y1 y2 ∧ Keep w W := by
  refine ⟨_, rfl, ?_, ?_, ((Keep.refl w).alloc _).alloc _⟩
  · exact (Box.new w x0 x1 x2).keep ((Keep.refl _).alloc _)
  · have := Box.new (w.alloc (Obj.cells #[x0, x1, x2] 54)) y0 y1 y2
    simpa using this
theorem mul_few {la lb l : List Nat} (ma : Lim la) (mb : Lim lb) (n : Nrm l) (e : val l = val la * val lb) : l.length ≤ la.length + lb.length := len_le_pow n _ (by
  rw [e, Nat.pow_add]
  exact Nat.mul_lt_mul_of_lt_of_le (val_lt ma) (Nat.le_of_lt (val_lt mb)) (Nat.pos_of_ne_zero (by simp)))
/-- Limbs do not lie in a quotient's variable. -/
theorem rd_box {w : World} {a : Option Addr} {l : List Nat} {g : Nat} {p q r : Value} (h : Rd w a l) (hb : Box w g p q r) (hp : ∀ x, p ≠ .int .u32 x) (hq : ∀ x, q ≠ .int .u32 x) (hr : ∀ x, r ≠ .int .u32 x) (x y z : Value) : Rd (((w.setCell ⟨g, 0, none⟩ x).setCell ⟨g, 1, none⟩ y).setCell ⟨g, 2, none⟩ z) a l := by
  have ho : Off g a l := by
    intro b o s e hne
    rintro rfl
    obtain ⟨b', o', e', hc⟩ := h 0 (List.length_pos_iff.2 hne)
    rw [e'] at e
    simp only [Option.some.injEq, Addr.mk.injEq] at e
    obtain ⟨rfl, rfl, -⟩ := e
    have h1 := cell_of_row w b' (o' + 0) _ 54 (0, 0) hb
    rw [hc] at h1
    match o', h1 with
    | 0, h1 => simp at h1; exact hp _ h1.symm
    | 1, h1 => simp at h1; exact hq _ h1.symm
    | 2, h1 => simp at h1; exact hr _ h1.symm
    | n + 3, h1 => simp at h1
  exact h.mut ((((Mut.refl g w).setCell 0 x).setCell 1 y).setCell 2 z) ho
/-- What is answered, behind a store into the variable of the answer. -/
theorem RatF.box {w w1 w' : World} {e : Ending} {neg : Bool} {N D : Nat} (h : RatF w1 w' e neg N D) (k : Keep w w1) {g : Nat} (hg : w.heap.size ≤ g) (hb : Box w1 g (.bool false) (.slice none 0 0) (.slice none 0 0)) :
    ∃ (an : Option Addr) (cn : Nat) (ln : List Nat) (ad : Option Addr) (cd : Nat) (ld : List Nat), e = .returned (.tuple #[.agg #[.bool (RS neg N D), .slice an (List.length ln) cn, .slice ad (List.length ld) cd], .int .i64 (RE D)]) ∧ (∀ x y z, RatF w (((w'.setCell ⟨g, 0, none⟩ x).setCell ⟨g, 1, none⟩ y).setCell ⟨g, 2, none⟩ z) (.returned (.tuple #[.agg #[.bool (RS neg N D), .slice an (List.length ln) cn, .slice ad (List.length ld) cd], .int .i64 (RE D)])) neg N D) ∧ Keep w1 w' := by
  obtain ⟨an, cn, ln, ad, cd, ld, he, h1, i1, h2, i2, h3, i3, h4, i4, h5, i5, k'⟩ := h
  have hbx' := hb.keep k'
  refine ⟨an, cn, ln, ad, cd, ld, he, fun x' y' z' => ⟨an, cn, ln, ad, cd, ld, rfl, h1, i1, ?_, ?_, h3, i3, h4, i4, h5, i5, ?_⟩, k'⟩
  · exact rd_box h2 hbx' (by simp) (by simp) (by simp) _ _ _
  · exact rd_box i2 hbx' (by simp) (by simp) (by simp) _ _ _
  · exact (((k.trans k').setCell hg _).setCell hg _).setCell hg _
end Go.Proofs.YtpdjpjkieafnbaaGreatDoor.Li
set_option linter.unusedVariables false
set_option linter.unusedSimpArgs false
namespace Go.Proofs.YtpdjpjkieafnbaaGreatDoor.Li
open Go.RowKit Lb
set_option maxRecDepth 100000 in
set_option maxHeartbeats 400000 in
theorem isNought_any (a : Option Addr) (ca : Nat) (la : List Nat) (w : World) (hca : la.length ≤ ca) (hla : la.length ≤ 70368744177664) (hra : Rd w a la) :
    Calls Tryz.prog 81 #[.slice a la.length ca] w fun e w' => e = .returned (.bool (decide (val la = 0))) ∧ w' = w := by
  have t1 := trim_any a ca la w hca (by omega) hra
  have HN : Hid (decide (val la = 0) = ((nl la : Int) == 0)) := by
    show _ = _
    rw [Bool.eq_iff_iff]
    simp
    exact nl_val.symm
  go_enter Tryz.func81, Tryz.ntmps81
  go_wp2_with fail
  refine t1.mono ?_
  rintro e w1 ⟨rfl, rfl⟩
  go_wp2_with fail
  go_ret
  exact ⟨by rw [HN.out]; rfl, rfl⟩
/-- The quotient that has nought below. -/
theorem RatF.none {w w' : World} {neg : Bool} {N D : Nat} (hD : D = 0) (k : Keep w w') : RatF w w' (.returned (.tuple #[.agg #[.bool false, .slice none 0 0, .slice none 0 0], .int .i64 11])) neg N D :=
  ⟨.none, 0, [], .none, 0, [], by simp [RS, RE, hD], by simp, by simp, Rd.nil _ _, Rd.nil _ _, by intro x hx; simp at hx, by intro x hx; simp at hx, by simp [Nrm], by simp [Nrm], by simp [RN, hD, val], by simp [RD, hD, val], k⟩
end Go.Proofs.YtpdjpjkieafnbaaGreatDoor.Li
set_option linter.unusedVariables false
set_option linter.unusedSimpArgs false
namespace Go.Proofs.YtpdjpjkieafnbaaGreatDoor.Li
open Go.RowKit Lb
set_option maxRecDepth 100000 in
set_option maxHeartbeats 800000 in
theorem crossed_any (n1 n2 : Bool) (a b c d : Option Addr) (ca cb cc cd : Nat) (la lb lc ld : List Nat) (w : World) (hA : Arg2 w a ca la b cb lb) (hB : Arg2 w c cc lc d cd ld) :
    Calls Tryz.prog 83 #[.agg #[.bool n1, .slice a la.length ca, .slice b lb.length cb], .agg #[.bool n2, .slice c lc.length cc, .slice d ld.length cd]] w fun e w' => ∃ vA vB, e = .returned (.tuple #[vA, vB]) ∧ NatR w.heap.size w' vA (val la * val ld) ∧ NatR w.heap.size w' vB (val lc * val lb) ∧ Keep w w' := by
  obtain ⟨W, hW, B1, B2, kW⟩ := lay2 w (.bool n1) (.slice a la.length ca) (.slice b lb.length cb) (.bool n2) (.slice c lc.length cc) (.slice d ld.length cd)
  have M1 := fun wx (hk : Keep w wx) => Mul_any a d ca cd la ld wx hA.hca hB.hcb (by have := hA.hla; omega) (by have := hB.hlb; omega) (hA.hra.keep hk) (hB.hrb.keep hk) hA.hma hB.hmb
  have M2 := fun wx (hk : Keep w wx) => Mul_any c b cc cb lc lb wx hB.hca hA.hcb (by have := hB.hla; omega) (by have := hA.hlb; omega) (hB.hra.keep hk) (hA.hrb.keep hk) hB.hma hA.hmb
  go_enter Tryz.func83, Tryz.ntmps83
  go_wp2_with fail
  rw [← hW]
  clear hW
  obtain ⟨x0, x1, x2⟩ := B1.cells
  obtain ⟨x3, x4, x5⟩ := B2.cells
  have kd : Keep w W.drew := kW.drew
  obtain ⟨g, hg⟩ : ∃ g, w.heap.size = g := ⟨_, rfl⟩
  have hgl : Hid (w.heap.size = g) := hg
  rw [hg] at x0 x1 x2 x3 x4 x5
  rw [hg]
  clear hg B1 B2
  go_region_held3 (fun w' => w'.cell? ⟨g, 1, none⟩ = some (Value.slice a la.length ca) ∧ w'.cell? ⟨g, 2, none⟩ = some (Value.slice b lb.length cb) ∧ w'.cell? ⟨g + 1, 1, none⟩ = some (Value.slice c lc.length cc) ∧ w'.cell? ⟨g + 1, 2, none⟩ = some (Value.slice d ld.length cd)) (go_keep) (first
    | (go_at_call_of 108 (Value.slice a la.length ca); refine (M1 _ ?_).mono ?_; exact kd; rintro e wA ⟨vA, rfl, nA, kA⟩; have nA' := nA.natR; obtain ⟨aA, cA, lA, rfl, -⟩ := nA.natR.shape; have k1 := kd.trans kA; have s1 := Keep.cell kA x1; have s2 := Keep.cell kA x2; have s4 := Keep.cell kA x4; have s5 := Keep.cell kA x5)
    | (go_at_call_of 108 (Value.slice c lc.length cc); refine (M2 _ ?_).mono ?_; exact k1; rintro e wB ⟨vB, rfl, nB, kB⟩; have nB' := nB.natR; obtain ⟨aB, cB, lB, rfl, -⟩ := nB.natR.shape; have k2 := k1.trans kB; have t1 := Keep.cell kB s1; have t2 := Keep.cell kB s2; have t4 := Keep.cell kB s4; have t5 := Keep.cell kB s5))
  go_simp
  go_wp2_with fail
  go_ret2
  exact ⟨_, _, rfl, (nA'.keep kB).mono kd.le, nB'.mono k1.le, k2⟩
end Go.Proofs.YtpdjpjkieafnbaaGreatDoor.Li
set_option linter.unusedVariables false
set_option linter.unusedSimpArgs false
namespace Go.Proofs.YtpdjpjkieafnbaaGreatDoor.Li
open Go.RowKit Lb
set_option maxRecDepth 100000 in
set_option maxHeartbeats 400000 in
theorem difference_any (a b : Option Addr) (ca cb : Nat) (la lb : List Nat) (w : World) (hla : la.length ≤ 70368744177664) (hra : Rd w a la) (hrb : Rd w b lb) (hma : Lim la) (hmb : Lim lb) (hfit : lb.length ≤ la.length) (hge : val lb ≤ val la) :
    Calls Tryz.prog 166 #[.slice a la.length ca, .slice b lb.length cb] w fun e w' => ∃ v, e = .returned v ∧ NatR w.heap.size w' v (val la - val lb) ∧ Keep w w' := by
  have hf := fresh_any a ca la w hla hra
  go_enter Tryz.func166, Tryz.ntmps166
  go_wp2_with fail
  refine hf.mono ?_
  rintro e w1 ⟨rfl, hrow, hk, hsz⟩
  have hT := take_any w.heap.size b cb la.length la.length la lb w1 hla (Nat.le_refl _) hrow (hrb.keep hk) (Off.of_lt hrb (Nat.le_refl _)) hma hmb hfit (by rw [List.take_of_length_le (Nat.le_refl _)]; exact hge)
  rw [List.take_of_length_le (Nat.le_refl _), List.drop_eq_nil_of_le (Nat.le_refl _)] at hT
  go_wp2_with fail
  refine hT.mono ?_
  rintro e w2 ⟨rfl, q, hrq, hql, hmq, hvq, hmu⟩
  rw [List.append_nil] at hrq
  have hT2 := trim_any (some ⟨w.heap.size, 0, none⟩) q.length q w2 (Nat.le_refl _) (by omega) hrq.rd0
  rw [hql] at hT2
  clear hT hf
  go_wp2_with fail
  refine hT2.mono ?_
  rintro e w3 ⟨rfl, rfl⟩
  go_wp2
  go_ret
  refine ⟨_, rfl, ?_, hk.mut hmu (Nat.le_refl _)⟩
  have h1 := NatR.of_trim (hrq.res (B := w.heap.size) (Nat.le_refl _)) hmq
  rw [hql, show val q = val la - val lb by omega] at h1
  exact h1
end Go.Proofs.YtpdjpjkieafnbaaGreatDoor.Li
set_option linter.unusedVariables false
set_option linter.unusedSimpArgs false
namespace Go.Proofs.YtpdjpjkieafnbaaGreatDoor.Li
open Go.RowKit Lb
theorem sum_few {la lb l : List Nat} (ma : Lim la) (mb : Lim lb) (n : Nrm l) (e : val l = val la + val lb) : l.length ≤ max la.length lb.length + 1 := len_le_pow n _ (by
  have h1 := val_lt ma
  have h2 := val_lt mb
  have h3 : 4294967296 ^ la.length ≤ 4294967296 ^ (max la.length lb.length) := Nat.pow_le_pow_right (by omega) (by omega)
  have h4 : 4294967296 ^ lb.length ≤ 4294967296 ^ (max la.length lb.length) := Nat.pow_le_pow_right (by omega) (by omega)
  rw [e, Nat.pow_succ]
  omega)
theorem sub_few {la l : List Nat} {x : Nat} (ma : Lim la) (n : Nrm l) (e : val l = val la - x) : l.length ≤ la.length := len_le_pow n _ (by have := val_lt ma; omega)
set_option maxRecDepth 100000 in
set_option maxHeartbeats 1600000 in
theorem Plus_like (n1 n2 : Bool) (a b c d : Option Addr) (ca cb cc cd : Nat) (la lb lc ld : List Nat) (w : World) (hA : Arg2 w a ca la b cb lb) (hB : Arg2 w c cc lc d cd ld) (hn : n1 = n2) :
    Calls Tryz.prog 132 #[.agg #[.bool n1, .slice a la.length ca, .slice b lb.length cb], .agg #[.bool n2, .slice c lc.length cc, .slice d ld.length cd]] w fun e w' => RatF w w' e n1 (val la * val ld + val lc * val lb) (val lb * val ld) := by
  subst hn
  obtain ⟨W, hW, B1, B2, B3, kW, hsz⟩ := lay3 w (.bool n1) (.slice a la.length ca) (.slice b lb.length cb) (.bool n1) (.slice c lc.length cc) (.slice d ld.length cd) (.bool false) (.slice none 0 0) (.slice none 0 0)
  have C1 := fun wx (hk : Keep w wx) => crossed_any n1 n1 a b c d ca cb cc cd la lb lc ld wx (hA.keep hk) (hB.keep hk)
  have M2 := fun wx (hk : Keep w wx) => Mul_any b d cb cd lb ld wx hA.hcb hB.hcb (by have := hA.hlb; omega) (by have := hB.hlb; omega) (hA.hrb.keep hk) (hB.hrb.keep hk) hA.hmb hB.hmb
  have q1 := hA.hla
  have q2 := hA.hlb
  have q3 := hB.hla
  have q4 := hB.hlb
  go_enter Tryz.func132, Tryz.ntmps132
  go_wp2_with fail
  rw [← hW]
  clear hW
  refine (C1 W kW).mono ?_
  rintro e wA ⟨vL, vR, rfl, nL, nR, kA⟩
  obtain ⟨aL, cL, lL, rfl, hcL, rL, mL, pL, eL, -⟩ := nL.shape
  obtain ⟨aR, cR, lR, rfl, hcR, rR, mR, pR, eR, -⟩ := nR.shape
  have jL := mul_few hA.hma hB.hmb pL eL
  have jR := mul_few hB.hma hA.hmb pR eR
  have B1 := B1.keep kA
  have B2 := B2.keep kA
  have B3 := B3.keep kA
  have kA' := kW.trans kA
  obtain ⟨x0, x1, x2⟩ := B1.cells
  obtain ⟨x3, x4, x5⟩ := B2.cells
  clear C1 nL nR
  go_wp2_with fail
  refine (M2 wA kA').mono ?_
  rintro e wB ⟨vD, rfl, nD, kB⟩
  obtain ⟨aD, cD, lD, rfl, hcD, rD, mD, pD, eD, -⟩ := nD.natR.shape
  have jD := mul_few hA.hmb hB.hmb pD eD
  clear x0 x1 x2 x3 x4 x5 M2 nD
  have B1 := B1.keep kB
  have B2 := B2.keep kB
  have B3 := B3.keep kB
  have kB' := kA'.trans kB
  have rL := rL.keep kB
  have rR := rR.keep kB
  obtain ⟨x0, x1, x2⟩ := B1.cells
  obtain ⟨x3, x4, x5⟩ := B2.cells
  go_wp2_with fail
  have Bd : Box wB.drew (w.heap.size + 1 + 1) (.bool false) (.slice none 0 0) (.slice none 0 0) := B3
  have kd : Keep w wB.drew := kB'.drew
  have hgw : w.heap.size ≤ w.heap.size + 1 + 1 := by omega
  obtain ⟨g, hg⟩ : ∃ g, w.heap.size = g := ⟨_, rfl⟩
  rw [hg] at x0 x1 x2 x3 x4 x5 Bd
  rw [show w.heap.size + 1 + 1 = g + 1 + 1 by omega] at hgw
  rw [hg]
  clear hg
  have hn1 : ¬ (g = g + 1 + 1) := by omega
  have hn2 : ¬ (g + 1 + 1 = g) := by omega
  clear B1 B2
  go_region_held3 (fun w' => w'.cell? ⟨g, 0, none⟩ = some (Value.bool n1)) (go_keep) (first
    | (go_at_call 118; refine (sum_any aL aR cL cR lL lR _ ?_ ?_ ?_ ?_ mL mR).mono ?_; omega; omega; exact rL; exact rR; rintro e wS ⟨vS, rfl, nS, kS⟩; obtain ⟨aS, cS, lS, rfl, hcS, rS, mS, pS, eS, -⟩ := nS.shape; have jS := sum_few mL mR pS eS; rw [eL, eR] at eS; have k2 := kd.trans kS; have BS := Bd.keep kS; have rD2 := rD.keep ((Keep.refl wB).drew.trans kS); have s0 := Keep.cell kS x0)
    | (go_at_call 40; refine (Over_form _ aS aD cS cD lS lD wS hcS hcD ?_ ?_ rS rD2 mS mD).mono ?_; omega; omega; rintro e wC hC; rw [eS, eD] at hC; obtain ⟨an, cn, ln, ad, cm, lm, rfl, hfin, kC⟩ := hC.box k2 hgw BS; have BC := BS.keep kC; obtain ⟨z0, z1, z2⟩ := BC.cells; have f0 := BC.free 0; have f1 := BC.free 1; have f2 := BC.free 2; have t0 := Keep.cell kC s0))
  go_simp
  go_wp2_with fail
  refine bodyPost_ret (v := .tuple #[.agg #[.bool _, .slice an ln.length cn, .slice ad lm.length cm], .int .i64 (RE (val lb * val ld))]) (by simp [results, Tryz.results132, go_sem, World.cell?_setCell_other, World.cell?_setCell_same, z0, z1, z2]) rfl (hfin _ _ _)
set_option maxRecDepth 100000 in
set_option maxHeartbeats 1600000 in
theorem Plus_more (n1 n2 : Bool) (a b c d : Option Addr) (ca cb cc cd : Nat) (la lb lc ld : List Nat) (w : World) (hA : Arg2 w a ca la b cb lb) (hB : Arg2 w c cc lc d cd ld) (hn : n1 ≠ n2) (hle : val lc * val lb ≤ val la * val ld) :
    Calls Tryz.prog 132 #[.agg #[.bool n1, .slice a la.length ca, .slice b lb.length cb], .agg #[.bool n2, .slice c lc.length cc, .slice d ld.length cd]] w fun e w' => RatF w w' e n1 (val la * val ld - val lc * val lb) (val lb * val ld) := by
  obtain ⟨W, hW, B1, B2, B3, kW, hsz⟩ := lay3 w (.bool n1) (.slice a la.length ca) (.slice b lb.length cb) (.bool n2) (.slice c lc.length cc) (.slice d ld.length cd) (.bool false) (.slice none 0 0) (.slice none 0 0)
  have C1 := fun wx (hk : Keep w wx) => crossed_any n1 n2 a b c d ca cb cc cd la lb lc ld wx (hA.keep hk) (hB.keep hk)
  have M2 := fun wx (hk : Keep w wx) => Mul_any b d cb cd lb ld wx hA.hcb hB.hcb (by have := hA.hlb; omega) (by have := hB.hlb; omega) (hA.hrb.keep hk) (hB.hrb.keep hk) hA.hmb hB.hmb
  have q1 := hA.hla
  have q2 := hA.hlb
  have q3 := hB.hla
  have q4 := hB.hlb
  go_enter Tryz.func132, Tryz.ntmps132
  go_wp2_with fail
  rw [← hW]
  clear hW
  refine (C1 W kW).mono ?_
  rintro e wA ⟨vL, vR, rfl, nL, nR, kA⟩
  obtain ⟨aL, cL, lL, rfl, hcL, rL, mL, pL, eL, -⟩ := nL.shape
  obtain ⟨aR, cR, lR, rfl, hcR, rR, mR, pR, eR, -⟩ := nR.shape
  have jL := mul_few hA.hma hB.hmb pL eL
  have jR := mul_few hB.hma hA.hmb pR eR
  have B1 := B1.keep kA
  have B2 := B2.keep kA
  have B3 := B3.keep kA
  have kA' := kW.trans kA
  obtain ⟨x0, x1, x2⟩ := B1.cells
  obtain ⟨x3, x4, x5⟩ := B2.cells
  clear C1 nL nR
  go_wp2_with fail
  refine (M2 wA kA').mono ?_
  rintro e wB ⟨vD, rfl, nD, kB⟩
  obtain ⟨aD, cD, lD, rfl, hcD, rD, mD, pD, eD, -⟩ := nD.natR.shape
  have jD := mul_few hA.hmb hB.hmb pD eD
  clear x0 x1 x2 x3 x4 x5 M2 nD
  have B1 := B1.keep kB
  have B2 := B2.keep kB
  have B3 := B3.keep kB
  have kB' := kA'.trans kB
  have rL := rL.keep kB
  have rR := rR.keep kB
  obtain ⟨x0, x1, x2⟩ := B1.cells
  obtain ⟨x3, x4, x5⟩ := B2.cells
  have hvge : val lR ≤ val lL := by rw [eL, eR]; exact hle
  have hfit : lR.length ≤ lL.length := val_len mL pR hvge
  have hnn : (n1 == n2) = false := by cases n1 <;> cases n2 <;> simp_all
  have hcp := compare_any aL aR cL cR lL lR wB (by omega) (by omega) rL rR
  rw [cmpL_eq lL lR mL mR pL pR, eL, eR] at hcp
  have hz : 0 ≤ cmpN (val la * val ld) (val lc * val lb) := by unfold cmpN; rw [if_neg (by omega)]; split <;> omega
  generalize cmpN (val la * val ld) (val lc * val lb) = z at hcp hz
  have hgz : decide (0 ≤ z) = true := by simp; omega
  go_wp2_with fail
  refine hcp.mono ?_
  rintro e wP ⟨rfl, dP⟩
  clear hcp
  have kP := dP.keep
  clear x0 x1 x2 x3 x4 x5
  have B1 := B1.keep kP
  have B2 := B2.keep kP
  have B3 := B3.keep kP
  have kP' := kB'.trans kP
  have rL := rL.keep kP
  have rR := rR.keep kP
  have rD := rD.keep kP
  obtain ⟨x0, x1, x2⟩ := B1.cells
  obtain ⟨x3, x4, x5⟩ := B2.cells
  go_wp2_with fail
  have Bd : Box wP.drew (w.heap.size + 1 + 1) (.bool false) (.slice none 0 0) (.slice none 0 0) := B3
  have kd : Keep w wP.drew := kP'.drew
  have hgw : w.heap.size ≤ w.heap.size + 1 + 1 := by omega
  obtain ⟨g, hg⟩ : ∃ g, w.heap.size = g := ⟨_, rfl⟩
  rw [hg] at x0 x1 x2 x3 x4 x5 Bd
  rw [show w.heap.size + 1 + 1 = g + 1 + 1 by omega] at hgw
  rw [hg]
  clear hg
  have hn1 : ¬ (g = g + 1 + 1) := by omega
  have hn2 : ¬ (g + 1 + 1 = g) := by omega
  clear B1 B2
  go_region_held3 (fun w' => w'.cell? ⟨g, 0, none⟩ = some (Value.bool n1)) (go_keep) (first
    | (go_at_call 166; refine (difference_any aL aR cL cR lL lR _ ?_ ?_ ?_ mL mR ?_ ?_).mono ?_; omega; exact rL; exact rR; exact hfit; exact hvge; rintro e wS ⟨vS, rfl, nS, kS⟩; obtain ⟨aS, cS, lS, rfl, hcS, rS, mS, pS, eS, -⟩ := nS.shape; have jS := sub_few mL pS eS; rw [eL, eR] at eS; have k2 := kd.trans kS; have BS := Bd.keep kS; have rD2 := rD.keep ((Keep.refl wP).drew.trans kS); have s0 := Keep.cell kS x0)
    | (go_at_call 40; refine (Over_form _ aS aD cS cD lS lD wS hcS hcD ?_ ?_ rS rD2 mS mD).mono ?_; omega; omega; rintro e wC hC; rw [eS, eD] at hC; obtain ⟨an, cn, ln, ad, cm, lm, rfl, hfin, kC⟩ := hC.box k2 hgw BS; have BC := BS.keep kC; obtain ⟨z0, z1, z2⟩ := BC.cells; have f0 := BC.free 0; have f1 := BC.free 1; have f2 := BC.free 2; have t0 := Keep.cell kC s0))
  go_simp
  go_wp2_with fail
  refine bodyPost_ret (v := .tuple #[.agg #[.bool _, .slice an ln.length cn, .slice ad lm.length cm], .int .i64 (RE (val lb * val ld))]) (by simp [results, Tryz.results132, go_sem, World.cell?_setCell_other, World.cell?_setCell_same, z0, z1, z2]) rfl (hfin _ _ _)
set_option maxRecDepth 100000 in
set_option maxHeartbeats 1600000 in
theorem Plus_less (n1 n2 : Bool) (a b c d : Option Addr) (ca cb cc cd : Nat) (la lb lc ld : List Nat) (w : World) (hA : Arg2 w a ca la b cb lb) (hB : Arg2 w c cc lc d cd ld) (hn : n1 ≠ n2) (hle : val la * val ld < val lc * val lb) :
    Calls Tryz.prog 132 #[.agg #[.bool n1, .slice a la.length ca, .slice b lb.length cb], .agg #[.bool n2, .slice c lc.length cc, .slice d ld.length cd]] w fun e w' => RatF w w' e n2 (val lc * val lb - val la * val ld) (val lb * val ld) := by
  obtain ⟨W, hW, B1, B2, B3, kW, hsz⟩ := lay3 w (.bool n1) (.slice a la.length ca) (.slice b lb.length cb) (.bool n2) (.slice c lc.length cc) (.slice d ld.length cd) (.bool false) (.slice none 0 0) (.slice none 0 0)
  have C1 := fun wx (hk : Keep w wx) => crossed_any n1 n2 a b c d ca cb cc cd la lb lc ld wx (hA.keep hk) (hB.keep hk)
  have M2 := fun wx (hk : Keep w wx) => Mul_any b d cb cd lb ld wx hA.hcb hB.hcb (by have := hA.hlb; omega) (by have := hB.hlb; omega) (hA.hrb.keep hk) (hB.hrb.keep hk) hA.hmb hB.hmb
  have q1 := hA.hla
  have q2 := hA.hlb
  have q3 := hB.hla
  have q4 := hB.hlb
  go_enter Tryz.func132, Tryz.ntmps132
  go_wp2_with fail
  rw [← hW]
  clear hW
  refine (C1 W kW).mono ?_
  rintro e wA ⟨vL, vR, rfl, nL, nR, kA⟩
  obtain ⟨aL, cL, lL, rfl, hcL, rL, mL, pL, eL, -⟩ := nL.shape
  obtain ⟨aR, cR, lR, rfl, hcR, rR, mR, pR, eR, -⟩ := nR.shape
  have jL := mul_few hA.hma hB.hmb pL eL
  have jR := mul_few hB.hma hA.hmb pR eR
  have B1 := B1.keep kA
  have B2 := B2.keep kA
  have B3 := B3.keep kA
  have kA' := kW.trans kA
  obtain ⟨x0, x1, x2⟩ := B1.cells
  obtain ⟨x3, x4, x5⟩ := B2.cells
  clear C1 nL nR
  go_wp2_with fail
  refine (M2 wA kA').mono ?_
  rintro e wB ⟨vD, rfl, nD, kB⟩
  obtain ⟨aD, cD, lD, rfl, hcD, rD, mD, pD, eD, -⟩ := nD.natR.shape
  have jD := mul_few hA.hmb hB.hmb pD eD
  clear x0 x1 x2 x3 x4 x5 M2 nD
  have B1 := B1.keep kB
  have B2 := B2.keep kB
  have B3 := B3.keep kB
  have kB' := kA'.trans kB
  have rL := rL.keep kB
  have rR := rR.keep kB
  obtain ⟨x0, x1, x2⟩ := B1.cells
  obtain ⟨x3, x4, x5⟩ := B2.cells
  have hvge : val lL ≤ val lR := by rw [eL, eR]; omega
  have hfit : lL.length ≤ lR.length := val_len mR pL hvge
  have hnn : (n1 == n2) = false := by cases n1 <;> cases n2 <;> simp_all
  have hcp := compare_any aL aR cL cR lL lR wB (by omega) (by omega) rL rR
  rw [cmpL_eq lL lR mL mR pL pR, eL, eR] at hcp
  have hz :  cmpN (val la * val ld) (val lc * val lb) < 0 := by unfold cmpN; rw [if_pos (by omega)]; omega
  generalize cmpN (val la * val ld) (val lc * val lb) = z at hcp hz
  have hgz : decide (0 ≤ z) = false := by simp; omega
  go_wp2_with fail
  refine hcp.mono ?_
  rintro e wP ⟨rfl, dP⟩
  clear hcp
  have kP := dP.keep
  clear x0 x1 x2 x3 x4 x5
  have B1 := B1.keep kP
  have B2 := B2.keep kP
  have B3 := B3.keep kP
  have kP' := kB'.trans kP
  have rL := rL.keep kP
  have rR := rR.keep kP
  have rD := rD.keep kP
  obtain ⟨x0, x1, x2⟩ := B1.cells
  obtain ⟨x3, x4, x5⟩ := B2.cells
  go_wp2_with fail
  have Bd : Box wP.drew (w.heap.size + 1 + 1) (.bool false) (.slice none 0 0) (.slice none 0 0) := B3
  have kd : Keep w wP.drew := kP'.drew
  have hgw : w.heap.size ≤ w.heap.size + 1 + 1 := by omega
  obtain ⟨g, hg⟩ : ∃ g, w.heap.size = g := ⟨_, rfl⟩
  rw [hg] at x0 x1 x2 x3 x4 x5 Bd
  rw [show w.heap.size + 1 + 1 = g + 1 + 1 by omega] at hgw
  rw [hg]
  clear hg
  have hn1 : ¬ (g = g + 1 + 1) := by omega
  have hn2 : ¬ (g + 1 + 1 = g) := by omega
  clear B1 B2
  go_region_held3 (fun w' => w'.cell? ⟨g + 1, 0, none⟩ = some (Value.bool n2)) (go_keep) (first
    | (go_at_call 166; refine (difference_any aR aL cR cL lR lL _ ?_ ?_ ?_ mR mL ?_ ?_).mono ?_; omega; exact rR; exact rL; exact hfit; exact hvge; rintro e wS ⟨vS, rfl, nS, kS⟩; obtain ⟨aS, cS, lS, rfl, hcS, rS, mS, pS, eS, -⟩ := nS.shape; have jS := sub_few mR pS eS; rw [eL, eR] at eS; have k2 := kd.trans kS; have BS := Bd.keep kS; have rD2 := rD.keep ((Keep.refl wP).drew.trans kS); have s0 := Keep.cell kS x3)
    | (go_at_call 40; refine (Over_form _ aS aD cS cD lS lD wS hcS hcD ?_ ?_ rS rD2 mS mD).mono ?_; omega; omega; rintro e wC hC; rw [eS, eD] at hC; obtain ⟨an, cn, ln, ad, cm, lm, rfl, hfin, kC⟩ := hC.box k2 hgw BS; have BC := BS.keep kC; obtain ⟨z0, z1, z2⟩ := BC.cells; have f0 := BC.free 0; have f1 := BC.free 1; have f2 := BC.free 2; have t0 := Keep.cell kC s0))
  go_simp
  go_wp2_with fail
  refine bodyPost_ret (v := .tuple #[.agg #[.bool _, .slice an ln.length cn, .slice ad lm.length cm], .int .i64 (RE (val lb * val ld))]) (by simp [results, Tryz.results132, go_sem, World.cell?_setCell_other, World.cell?_setCell_same, z0, z1, z2]) rfl (hfin _ _ _)
def PN (n1 n2 : Bool) (L R : Nat) : Nat := if n1 = n2 then L + R else if R ≤ L then L - R else R - L
def PG (n1 n2 : Bool) (L R : Nat) : Bool := if n1 = n2 then n1 else if R ≤ L then n1 else n2
theorem Plus_form (n1 n2 : Bool) (a b c d : Option Addr) (ca cb cc cd : Nat) (la lb lc ld : List Nat) (w : World) (hA : Arg2 w a ca la b cb lb) (hB : Arg2 w c cc lc d cd ld) :
    Calls Tryz.prog 132 #[.agg #[.bool n1, .slice a la.length ca, .slice b lb.length cb], .agg #[.bool n2, .slice c lc.length cc, .slice d ld.length cd]] w fun e w' => RatF w w' e (PG n1 n2 (val la * val ld) (val lc * val lb)) (PN n1 n2 (val la * val ld) (val lc * val lb)) (val lb * val ld) := by
  unfold PG PN
  by_cases hn : n1 = n2
  · rw [if_pos hn, if_pos hn]
    exact Plus_like n1 n2 a b c d ca cb cc cd la lb lc ld w hA hB hn
  · rw [if_neg hn, if_neg hn]
    by_cases hle : val lc * val lb ≤ val la * val ld
    · rw [if_pos hle, if_pos hle]
      exact Plus_more n1 n2 a b c d ca cb cc cd la lb lc ld w hA hB hn hle
    · rw [if_neg hle, if_neg hle]
      exact Plus_less n1 n2 a b c d ca cb cc cd la lb lc ld w hA hB hn (by omega)
end Go.Proofs.YtpdjpjkieafnbaaGreatDoor.Li
set_option linter.unusedVariables false
set_option linter.unusedSimpArgs false
namespace Go.Proofs.YtpdjpjkieafnbaaGreatDoor.Li
open Go.RowKit Lb
set_option maxRecDepth 100000 in
set_option maxHeartbeats 800000 in
theorem Minus_form (n1 n2 : Bool) (a b c d : Option Addr) (ca cb cc cd : Nat) (la lb lc ld : List Nat) (w : World) (hA : Arg2 w a ca la b cb lb) (hB : Arg2 w c cc lc d cd ld) :
    Calls Tryz.prog 80 #[.agg #[.bool n1, .slice a la.length ca, .slice b lb.length cb], .agg #[.bool n2, .slice c lc.length cc, .slice d ld.length cd]] w fun e w' => RatF w w' e (PG n1 (!n2) (val la * val ld) (val lc * val lb)) (PN n1 (!n2) (val la * val ld) (val lc * val lb)) (val lb * val ld) := by
  obtain ⟨W, hW, B1, B2, B3, kW, hsz⟩ := lay3 w (.bool n1) (.slice a la.length ca) (.slice b lb.length cb) (.bool (!n2)) (.slice c lc.length cc) (.slice d ld.length cd) (.bool false) (.slice none 0 0) (.slice none 0 0)
  have hP := Plus_form n1 (!n2) a b c d ca cb cc cd la lb lc ld W (hA.keep kW) (hB.keep kW)
  go_enter Tryz.func80, Tryz.ntmps80
  go_wp2_with fail
  rw [← hW]
  clear hW
  refine hP.mono ?_
  rintro e wC hC
  obtain ⟨an, cn, ln, ad, cm, lm, rfl, hfin, kC⟩ := hC.box kW (show w.heap.size ≤ w.heap.size + 1 + 1 by omega) B3
  have BC := B3.keep kC
  obtain ⟨z0, z1, z2⟩ := BC.cells
  have f0 := BC.free 0
  have f1 := BC.free 1
  have f2 := BC.free 2
  clear hP hC B1 B2 B3 BC
  generalize RS (PG n1 (!n2) (val la * val ld) (val lc * val lb)) (PN n1 (!n2) (val la * val ld) (val lc * val lb)) (val lb * val ld) = rs at hfin ⊢
  generalize RE (val lb * val ld) = re at hfin ⊢
  go_wp2_with fail
  refine bodyPost_ret (v := .tuple #[.agg #[.bool rs, .slice an ln.length cn, .slice ad lm.length cm], .int .i64 re]) (by simp [results, Tryz.results80, go_sem, World.cell?_setCell_other, World.cell?_setCell_same, z0, z1, z2]) rfl (hfin _ _ _)
end Go.Proofs.YtpdjpjkieafnbaaGreatDoor.Li
set_option linter.unusedVariables false
set_option linter.unusedSimpArgs false
namespace Go.Proofs.YtpdjpjkieafnbaaGreatDoor.Li
open Go.RowKit Lb
set_option maxRecDepth 100000 in
set_option maxHeartbeats 800000 in
theorem below_any (n1 : Bool) (a b : Option Addr) (ca cb : Nat) (la lb : List Nat) (w : World) (hA : Arg2 w a ca la b cb lb) :
    Calls Tryz.prog 82 #[.agg #[.bool n1, .slice a la.length ca, .slice b lb.length cb]] w fun e w' => e = .returned (.bool (n1 && !decide (val la = 0))) ∧ Keep w w' := by
  have hk : ∀ x, Keep w (w.alloc (Obj.cells #[Value.bool x, Value.slice a la.length ca, Value.slice b lb.length cb] 54)) := fun x => (Keep.refl w).alloc _
  have hN := fun wx (hk : Keep w wx) => isNought_any a ca la wx hA.hca (by have := hA.hla; omega) (hA.hra.keep hk)
  cases n1
  · go_enter Tryz.func82, Tryz.ntmps82
    go_wp2_with fail
    go_ret
    exact ⟨rfl, hk _⟩
  · generalize decide (val la = 0) = z at hN ⊢
    go_enter Tryz.func82, Tryz.ntmps82
    go_wp2_with fail
    refine (hN _ (hk _)).mono ?_
    rintro e w1 ⟨rfl, rfl⟩
    go_wp2_with fail
    go_ret
    exact ⟨rfl, hk _⟩
/-- How two quotients compare. -/
def ordV (x y : Bool) (L R : Nat) : Int := if x != y then sgn x else if x then cmpN R L else cmpN L R
set_option maxRecDepth 100000 in
set_option maxHeartbeats 1600000 in
theorem Order_some (n1 n2 : Bool) (a b c d : Option Addr) (ca cb cc cd : Nat) (la lb lc ld : List Nat) (w : World) (hA : Arg2 w a ca la b cb lb) (hB : Arg2 w c cc lc d cd ld) (h0 : val lb ≠ 0) (h1 : val ld ≠ 0) :
    Calls Tryz.prog 43 #[.agg #[.bool n1, .slice a la.length ca, .slice b lb.length cb], .agg #[.bool n2, .slice c lc.length cc, .slice d ld.length cd]] w fun e w' => e = .returned (.tuple #[.int .i64 (ordV (n1 && !decide (val la = 0)) (n2 && !decide (val lc = 0)) (val la * val ld) (val lc * val lb)), .int .i64 0]) ∧ Keep w w' := by
  obtain ⟨W, hW, B1, B2, kW⟩ := lay2 w (.bool n1) (.slice a la.length ca) (.slice b lb.length cb) (.bool n2) (.slice c lc.length cc) (.slice d ld.length cd)
  have N1 := fun wx (hk : Keep w wx) => isNought_any b cb lb wx hA.hcb (by have := hA.hlb; omega) (hA.hrb.keep hk)
  have N2 := fun wx (hk : Keep w wx) => isNought_any d cd ld wx hB.hcb (by have := hB.hlb; omega) (hB.hrb.keep hk)
  rw [decide_eq_false h0] at N1
  rw [decide_eq_false h1] at N2
  have W1 := fun wx (hk : Keep w wx) => below_any n1 a b ca cb la lb wx (hA.keep hk)
  have W2 := fun wx (hk : Keep w wx) => below_any n2 c d cc cd lc ld wx (hB.keep hk)
  have C1 := fun wx (hk : Keep w wx) => crossed_any n1 n2 a b c d ca cb cc cd la lb lc ld wx (hA.keep hk) (hB.keep hk)
  have q1 := hA.hla
  have q2 := hA.hlb
  have q3 := hB.hla
  have q4 := hB.hlb
  obtain ⟨x, hx⟩ : ∃ x, (n1 && !decide (val la = 0)) = x := ⟨_, rfl⟩
  obtain ⟨y, hy⟩ : ∃ y, (n2 && !decide (val lc = 0)) = y := ⟨_, rfl⟩
  rw [hx] at W1
  rw [hy] at W2
  have Hx : Hid ((n1 && !decide (val la = 0)) = x) := hx
  have Hy : Hid ((n2 && !decide (val lc = 0)) = y) := hy
  clear hx hy h0 h1
  go_enter Tryz.func43, Tryz.ntmps43
  go_wp2_with fail
  rw [← hW]
  clear hW
  refine (N1 W kW).mono ?_
  rintro e w' ⟨rfl, hw'⟩
  have hw' := hw'.symm
  subst hw'
  obtain ⟨x0, x1, x2⟩ := B1.cells
  obtain ⟨x3, x4, x5⟩ := B2.cells
  go_wp2_with fail
  refine (N2 W kW).mono ?_
  rintro e w' ⟨rfl, hw'⟩
  have hw' := hw'.symm
  subst hw'
  go_wp2_with fail
  have kd : Keep w W.drew := kW.drew
  obtain ⟨g, hg⟩ : ∃ g, w.heap.size = g := ⟨_, rfl⟩
  rw [hg] at x0 x1 x2 x3 x4 x5
  rw [hg]
  clear hg B1 B2 N1 N2
  go_region_held3 (fun w' => w'.cell? ⟨g, 0, none⟩ = some (Value.bool n1) ∧ w'.cell? ⟨g, 1, none⟩ = some (Value.slice a la.length ca) ∧ w'.cell? ⟨g, 2, none⟩ = some (Value.slice b lb.length cb) ∧ w'.cell? ⟨g + 1, 0, none⟩ = some (Value.bool n2) ∧ w'.cell? ⟨g + 1, 1, none⟩ = some (Value.slice c lc.length cc) ∧ w'.cell? ⟨g + 1, 2, none⟩ = some (Value.slice d ld.length cd)) (go_keep) (first
    | (go_at_call_of 82 (Value.slice a la.length ca); refine (W1 _ ?_).mono ?_; exact kd; rintro e wA ⟨rfl, kA⟩; have k1 := kd.trans kA; have s0 := Keep.cell kA x0; have s1 := Keep.cell kA x1; have s2 := Keep.cell kA x2; have s3 := Keep.cell kA x3; have s4 := Keep.cell kA x4; have s5 := Keep.cell kA x5)
    | (go_at_call_of 82 (Value.slice c lc.length cc); refine (W2 _ ?_).mono ?_; exact k1; rintro e wB ⟨rfl, kB⟩; have k2 := k1.trans kB; have t0 := Keep.cell kB s0; have t1 := Keep.cell kB s1; have t2 := Keep.cell kB s2; have t3 := Keep.cell kB s3; have t4 := Keep.cell kB s4; have t5 := Keep.cell kB s5))
  clear W1 W2
  go_simp
  go_wp2_with fail
  refine (C1 wB k2).mono ?_
  rintro e wC ⟨vL, vR, rfl, nL, nR, kC⟩
  obtain ⟨aL, cL, lL, rfl, hcL, rL, mL, pL, eL, -⟩ := nL.shape
  obtain ⟨aR, cR, lR, rfl, hcR, rR, mR, pR, eR, -⟩ := nR.shape
  have jL := mul_few hA.hma hB.hmb pL eL
  have jR := mul_few hB.hma hA.hmb pR eR
  have k3 := k2.trans kC
  have P1 := compare_any aL aR cL cR lL lR wC (by omega) (by omega) rL rR
  rw [cmpL_eq lL lR mL mR pL pR, eL, eR] at P1
  have P2 := compare_any aR aL cR cL lR lL wC (by omega) (by omega) rR rL
  rw [cmpL_eq lR lL mR mL pR pL, eL, eR] at P2
  have S1 := fun t => sign_any t wC
  clear C1 nL nR eL eR
  cases x
  · cases y
    · have HV : Hid (ordV (n1 && !decide (val la = 0)) (n2 && !decide (val lc = 0)) (val la * val ld) (val lc * val lb) = cmpN (val la * val ld) (val lc * val lb)) := by show _ = _; rw [Hx.out, Hy.out]; rfl
      generalize cmpN (val la * val ld) (val lc * val lb) = z at P1 HV
      go_wp2_with fail
      refine P1.mono ?_
      rintro e w4 ⟨rfl, d4⟩
      go_wp2_with fail
      go_ret2
      exact ⟨by rw [HV.out]; rfl, k3.trans d4.keep⟩
    · have HV : Hid (ordV (n1 && !decide (val la = 0)) (n2 && !decide (val lc = 0)) (val la * val ld) (val lc * val lb) = sgn false) := by show _ = _; rw [Hx.out, Hy.out]; rfl
      go_wp2_with fail
      refine (S1 false).mono ?_
      rintro e w4 ⟨rfl, rfl⟩
      go_wp2_with fail
      go_ret2
      exact ⟨by rw [HV.out]; rfl, k3⟩
  · cases y
    · have HV : Hid (ordV (n1 && !decide (val la = 0)) (n2 && !decide (val lc = 0)) (val la * val ld) (val lc * val lb) = sgn true) := by show _ = _; rw [Hx.out, Hy.out]; rfl
      go_wp2_with fail
      refine (S1 true).mono ?_
      rintro e w4 ⟨rfl, rfl⟩
      go_wp2_with fail
      go_ret2
      exact ⟨by rw [HV.out]; rfl, k3⟩
    · have HV : Hid (ordV (n1 && !decide (val la = 0)) (n2 && !decide (val lc = 0)) (val la * val ld) (val lc * val lb) = cmpN (val lc * val lb) (val la * val ld)) := by show _ = _; rw [Hx.out, Hy.out]; rfl
      generalize cmpN (val lc * val lb) (val la * val ld) = z at P2 HV
      go_wp2_with fail
      refine P2.mono ?_
      rintro e w4 ⟨rfl, d4⟩
      go_wp2_with fail
      go_ret2
      exact ⟨by rw [HV.out]; rfl, k3.trans d4.keep⟩
set_option maxRecDepth 100000 in
set_option maxHeartbeats 400000 in
theorem Order_none (n1 n2 : Bool) (a b c d : Option Addr) (ca cb cc cd : Nat) (la lb lc ld : List Nat) (w : World) (hA : Arg2 w a ca la b cb lb) (hB : Arg2 w c cc lc d cd ld) (h0 : val lb = 0 ∨ val ld = 0) :
    Calls Tryz.prog 43 #[.agg #[.bool n1, .slice a la.length ca, .slice b lb.length cb], .agg #[.bool n2, .slice c lc.length cc, .slice d ld.length cd]] w fun e w' => e = .returned (.tuple #[.int .i64 0, .int .i64 11]) ∧ Keep w w' := by
  obtain ⟨W, hW, B1, B2, kW⟩ := lay2 w (.bool n1) (.slice a la.length ca) (.slice b lb.length cb) (.bool n2) (.slice c lc.length cc) (.slice d ld.length cd)
  have N1 := fun wx (hk : Keep w wx) => isNought_any b cb lb wx hA.hcb (by have := hA.hlb; omega) (hA.hrb.keep hk)
  have N2 := fun wx (hk : Keep w wx) => isNought_any d cd ld wx hB.hcb (by have := hB.hlb; omega) (hB.hrb.keep hk)
  obtain ⟨x0, x1, x2⟩ := B1.cells
  obtain ⟨x3, x4, x5⟩ := B2.cells
  by_cases h : val lb = 0
  · rw [decide_eq_true h] at N1
    clear h h0
    go_enter Tryz.func43, Tryz.ntmps43
    go_wp2_with fail
    rw [← hW]
    clear hW
    refine (N1 W kW).mono ?_
    rintro e w' ⟨rfl, hw'⟩
    have hw' := hw'.symm
    subst hw'
    go_wp2_with fail
    go_ret2
    exact ⟨rfl, kW⟩
  · rw [decide_eq_false h] at N1
    have h1 : val ld = 0 := by rcases h0 with h2 | h2; exact absurd h2 h; exact h2
    rw [decide_eq_true h1] at N2
    clear h h0 h1
    go_enter Tryz.func43, Tryz.ntmps43
    go_wp2_with fail
    rw [← hW]
    clear hW
    refine (N1 W kW).mono ?_
    rintro e w' ⟨rfl, hw'⟩
    have hw' := hw'.symm
    subst hw'
    go_wp2_with fail
    refine (N2 W kW).mono ?_
    rintro e w' ⟨rfl, hw'⟩
    have hw' := hw'.symm
    subst hw'
    go_wp2_with fail
    go_ret2
    exact ⟨rfl, kW⟩
end Go.Proofs.YtpdjpjkieafnbaaGreatDoor.Li
