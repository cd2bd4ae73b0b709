import Derived.Test.YtinjikoocegooaaGreatDoorProg
import Derived.Test.YtinjikoocegooaaGreatDoorLC10
import Derived.Test.YtinjikoocegooaaGreatDoorShelf
import Derived.Test.YtinjikoocegooaaGreatDoorZLH7
import Derived.Test.YtinjikoocegooaaGreatDoorZLF4
import Derived.Test.YtinjikoocegooaaGreatDoorZLC18
import Derived.WalkKit
import Derived.WalkSpells
import Derived.WalkLawsBesides
import Derived.Laws.CopyOwn
import Derived.Deep.Draws
import Derived.Deep.QuietTactic
import Derived.BigQuiet
import Derived.Laws.MathBits
import Derived.Shelf.Small.Bits
import Derived.Laws.BytesArg
import Derived.Lib.OthersKept
import Derived.Deep.RegionWith
import Derived.WalkMore
import Derived.Deep.LoopGhost
import Derived.Deep.RegionHeld3
import Derived.Test.YtinjikoocegooaaGreatDoorZLD6
set_option linter.unusedVariables false
set_option linter.unusedSimpArgs false
namespace Go.Proofs.YtinjikoocegooaaGreatDoor.Li
open Go.RowKit Lb
def RN (N D : Nat) : Nat := if D = 0 then 0 else N / Nat.gcd N D
def RD (N D : Nat) : Nat := if D = 0 then 0 else D / Nat.gcd N D
def RS (neg : Bool) (N D : Nat) : Bool := if D = 0 ∨ N = 0 then false else neg
def RE (D : Nat) : Int := if D = 0 then 11 else 0
/-- A slice that lies in a block of limbs. -/
def TB (w : World) (a : Option Addr) : Prop := ∀ p, a = some p → ∃ cur, w.heap[p.block]? = some (.cells cur 62 (0, 0))
theorem TB.none (w : World) : TB w none := fun p h => by cases h
theorem TB.same {w w' : World} {a : Option Addr} (h : TB w a) (k : ∀ p, a = some p → w'.heap[p.block]? = w.heap[p.block]?) : TB w' a := fun p e => by
  obtain ⟨cur, hc⟩ := h p e
  exact ⟨cur, by rw [k p e]; exact hc⟩
theorem TB.keep {w w' : World} {a : Option Addr} (h : TB w a) (k : Keep w w') : TB w' a := h.same fun p e => by
  obtain ⟨cur, hc⟩ := h p e
  exact k.block _ (Array.getElem?_eq_some_iff.1 hc).1
theorem TB.set {w : World} {a : Option Addr} (h : TB w a) (g j : Nat) (u : Value) : TB (w.setCell ⟨g, j, .none⟩ u) a := fun p e => by
  obtain ⟨cur, hc⟩ := h p e
  by_cases hg : p.block = g
  · subst hg
    exact ⟨_, heap_setCell_same w p.block j cur 62 u hc⟩
  · exact ⟨cur, by rw [show (w.setCell ⟨g, j, .none⟩ u).heap[p.block]? = w.heap[p.block]? from Below.heap_setCell _ _ _ _ (by simpa using hg)]; exact hc⟩
theorem TB.of_res {B : Nat} {w : World} {a : Option Addr} {n c : Nat} {l : List Nat} (h : Res B w (.slice a n c) l) : TB w a := by
  intro p e
  subst e
  rcases h with ⟨h, -⟩ | ⟨g, r, hv, -, hr, -⟩
  · simp at h
  · simp only [Value.slice.injEq, Option.some.injEq] at hv
    obtain ⟨rfl, -, -⟩ := hv
    exact ⟨_, hr⟩
/-- What a call answers: a quotient in its lowest terms, and an error. -/
def RatF (w w' : World) (e : Ending) (neg : Bool) (N D : Nat) : Prop :=
  ∃ an cn ln ad cd ld, e = .returned (.tuple #[.agg #[.bool (RS neg N D), .slice an (List.length ln) cn, .slice ad (List.length ld) cd], .int .i64 (RE D)]) ∧ ln.length ≤ cn ∧ ld.length ≤ cd ∧ Rd w' an ln ∧ Rd w' ad ld ∧ Lim ln ∧ Lim ld ∧ Nrm ln ∧ Nrm ld ∧ val ln = RN N D ∧ val ld = RD N D ∧ TB w' an ∧ TB w' ad ∧ Keep w w'
theorem nl_val {l : List Nat} : nl l = 0 ↔ val l = 0 := by
  constructor
  · intro h
    have := val_take_nl l
    rw [h] at this
    rw [← this]; simp [val]
  · intro h
    by_cases h0 : nl l = 0
    · exact h0
    · have h1 := val_ge_len l h0
      have h2 : 0 < 2 ^ (lenB l - 1) := Nat.pos_of_ne_zero (by simp)
      omega
theorem divide_all : DivideSaid 70368744177663 := fun a b ca cb la lb w h1 h2 h3 h4 h5 h6 h7 h8 h9 =>
  divide_any a b ca cb la lb w h1 (by omega) h3 h4 h5 h6 h7 h8 h9
theorem one_limb {w : World} {g : Nat} (h : w.cell? ⟨g, 0, none⟩ = some (.int .u32 1)) : Rd w (some ⟨g, 0, none⟩) [1] := by
  intro j hj
  obtain rfl : j = 0 := by simp at hj; omega
  exact ⟨_, _, rfl, h⟩
set_option maxRecDepth 100000 in
set_option maxHeartbeats 800000 in
theorem Over_full (neg : Bool) (a b : Option Addr) (ca cb : Nat) (la lb : List Nat) (w : World) (hca : la.length ≤ ca) (hcb : lb.length ≤ cb) (hla : la.length ≤ 70368744177663) (hlb : lb.length ≤ 70368744177663) (hra : Rd w a la) (hrb : Rd w b lb)
    (hma : Lim la) (hmb : Lim lb) (hb0 : nl lb ≠ 0) (ha0 : nl la ≠ 0) :
    Calls Tryz.prog 33 #[.bool neg, .slice a la.length ca, .slice b lb.length cb] w fun e w' => ∃ vn vd, e = .returned (.tuple #[.agg #[.bool neg, vn, vd], .int .i64 0]) ∧ NatR w.heap.size w' vn (val la / Nat.gcd (val la) (val lb)) ∧ NatR w.heap.size w' vd (val lb / Nat.gcd (val la) (val lb)) ∧ Keep w w' := by
  have hk : Keep w (w.alloc (Obj.cells #[Value.bool false, Value.slice none 0 0, Value.slice none 0 0] 36)) := (Keep.refl w).alloc _
  have hbox := Box.new w (Value.bool false) (Value.slice none 0 0) (Value.slice none 0 0)
  have t1 := trim_any a ca la _ hca (by omega) (hra.keep hk)
  have t2 := trim_any b cb lb _ hcb (by omega) (hrb.keep hk)
  have h0 : ((nl lb : Int) == 0) = false := by simp; omega
  have h0' : ((nl la : Int) == 0) = false := by simp; omega
  have l1 := nl_le la
  have l2 := nl_le lb
  have e1 : (la.take (nl la)).length = nl la := by simp; omega
  have e2 : (lb.take (nl lb)).length = nl lb := by simp; omega
  have a0 : la.take (nl la) ≠ [] := by intro h; rw [h] at e1; simp at e1; omega
  have b0 : lb.take (nl lb) ≠ [] := by intro h; rw [h] at e2; simp at e2; omega
  have va := val_take_nl la
  have vb := val_take_nl lb
  have na := Nrm_take la
  have nb := Nrm_take lb
  have ma := Lim_take hma (nl la)
  have mb := Lim_take hmb (nl lb)
  have ra := hra.take (nl la)
  have rb := hrb.take (nl lb)
  have vb0 : 0 < val lb := by
    rw [← vb]
    have h1 := val_ge nb b0
    have h2 : 0 < 4294967296 ^ ((lb.take (nl lb)).length - 1) := Nat.pos_of_ne_zero (by simp)
    omega
  generalize la.take (nl la) = x at *
  generalize lb.take (nl lb) = y at *
  go_enter Tryz.func33, Tryz.ntmps33
  go_wp2_with fail
  refine t1.mono ?_
  rintro e w' ⟨rfl, rfl⟩
  go_wp2_with fail
  refine t2.mono ?_
  rintro e w' ⟨rfl, rfl⟩
  go_wp2_with fail
  clear t1 t2
  generalize w.alloc _ = w1 at hk hbox ⊢
  have g1 := divisor_all a b ca cb x y w1 (by omega) (by omega) (by omega) (by omega) (ra.keep hk) (rb.keep hk) ma mb na nb
  rw [e1, e2, va, vb] at g1
  refine g1.mono ?_
  rintro e w2 ⟨v, rfl, hg, hk2⟩
  obtain ⟨ag, cg, lg, rfl, hcg, hrg, hmg, ng, hvg, -⟩ := hg.shape
  have hg0 : 0 < Nat.gcd (val la) (val lb) := Nat.gcd_pos_of_pos_right _ vb0
  have lg0 : lg ≠ [] := by intro h; rw [h] at hvg; simp [val] at hvg; omega
  have lgl : lg.length ≤ y.length := by
    rcases Nat.lt_or_ge y.length lg.length with h | h
    · have h1 := len_lt_val mb ng h
      have h2 := Nat.gcd_le_right (val la) vb0
      omega
    · exact h
  have hk02 := hk.trans hk2
  have d1 := divide_all a ag ca cg x lg w2 (by omega) (by omega) (ra.keep hk02) hrg ma hmg na ng lg0
  rw [e1, va, hvg] at d1
  clear g1 hg
  go_wp2_with fail
  refine d1.mono ?_
  rintro e w3 ⟨vq, vr, rfl, hq, hr3, hk3⟩
  obtain ⟨aq, cq, lq, rfl, -⟩ := hq.shape
  obtain ⟨ar3, cr3, lr3, rfl, -⟩ := hr3.shape
  have hk03 := hk02.trans hk3
  have d2 := divide_all b ag cb cg y lg w3 (by omega) (by omega) (rb.keep hk03) (hrg.keep hk3) mb hmg nb ng lg0
  rw [e2, vb, hvg] at d2
  clear d1
  go_wp2_with fail
  refine d2.mono ?_
  rintro e w4 ⟨vq2, vr2, rfl, hq2, hr4, hk4⟩
  obtain ⟨aq2, cq2, lq2, rfl, -⟩ := hq2.shape
  obtain ⟨ar4, cr4, lr4, rfl, -⟩ := hr4.shape
  have hk04 := hk03.trans hk4
  have hbox4 := ((hbox.keep hk2).keep hk3).keep hk4
  obtain ⟨c0, c1, c2⟩ := hbox4.cells
  have f0 := hbox4.free 0
  have f1 := hbox4.free 1
  have f2 := hbox4.free 2
  clear d2
  have hsz : w.heap.size < w4.heap.size := (Array.getElem?_eq_some_iff.1 hbox4).1
  go_wp2
  have hs1 : w.heap.size < w1.heap.size := (Array.getElem?_eq_some_iff.1 hbox).1
  have hs2 := hk2.le
  have hs3 := hk3.le
  refine bodyPost_ret (v := .tuple #[.agg #[.bool neg, .slice aq lq.length cq, .slice aq2 lq2.length cq2], .int .i64 0]) (by simp [results, Tryz.results33, go_sem, World.cell?_setCell_other, World.cell?_setCell_same, c0, c1, c2]) rfl ⟨_, _, rfl, ?_, ?_, ?_⟩
  · exact NatR.mono ((((hq.keep hk4).mut ((Mut.refl _ _).setCell _ _) (by omega)).mut ((Mut.refl _ _).setCell _ _) (by omega)).mut ((Mut.refl _ _).setCell _ _) (by omega)) (by omega)
  · exact NatR.mono (((hq2.mut ((Mut.refl _ _).setCell _ _) (by omega)).mut ((Mut.refl _ _).setCell _ _) (by omega)).mut ((Mut.refl _ _).setCell _ _) (by omega)) (by omega)
  · exact ((hk04.setCell (Nat.le_refl _) _).setCell (Nat.le_refl _) _).setCell (Nat.le_refl _) _
set_option maxRecDepth 100000 in
set_option maxHeartbeats 800000 in
theorem Over_nought (neg : Bool) (a b : Option Addr) (ca cb : Nat) (la lb : List Nat) (w : World) (hca : la.length ≤ ca) (hcb : lb.length ≤ cb) (hla : la.length ≤ 70368744177663) (hlb : lb.length ≤ 70368744177663) (hra : Rd w a la) (hrb : Rd w b lb)
    (hb0 : nl lb ≠ 0) (ha0 : nl la = 0) :
    Calls Tryz.prog 33 #[.bool neg, .slice a la.length ca, .slice b lb.length cb] w fun e w' => ∃ g, e = .returned (.tuple #[.agg #[.bool false, .slice none 0 0, .slice (some ⟨g, 0, none⟩) 1 1], .int .i64 0]) ∧ Rd w' (some ⟨g, 0, none⟩) [1] ∧ TB w' (some ⟨g, 0, none⟩) ∧ Keep w w' := by
  have hk : Keep w (w.alloc (Obj.cells #[Value.bool false, Value.slice none 0 0, Value.slice none 0 0] 36)) := (Keep.refl w).alloc _
  have hbox := Box.new w (Value.bool false) (Value.slice none 0 0) (Value.slice none 0 0)
  have t1 := trim_any a ca la _ hca (by omega) (hra.keep hk)
  have t2 := trim_any b cb lb _ hcb (by omega) (hrb.keep hk)
  have h0 : ((nl lb : Int) == 0) = false := by simp; omega
  have h0' : ((nl la : Int) == 0) = true := by simp; omega
  clear hb0 ha0
  go_enter Tryz.func33, Tryz.ntmps33
  go_wp2_with fail
  refine t1.mono ?_
  rintro e w' ⟨rfl, rfl⟩
  go_wp2_with fail
  refine t2.mono ?_
  rintro e w' ⟨rfl, rfl⟩
  go_wp2_with fail
  refine bodyPost_ret (v := .tuple #[.agg #[.bool false, .slice none 0 0, .slice (some ⟨w.heap.size + 1, 0, none⟩) 1 1], .int .i64 0]) (by simp [results, Tryz.results33, go_sem]) rfl ⟨w.heap.size + 1, rfl, one_limb ?_, ?_, ((Keep.refl w).alloc _).alloc _⟩
  rotate_left
  · intro p e
    simp only [Option.some.injEq] at e
    subst e
    have h := heap_alloc_new (w.alloc (Obj.cells #[Value.bool false, Value.slice none 0 0, Value.slice (some ⟨w.heap.size + 1, 0, none⟩) 1 1] 36)) (Obj.cells #[Value.int IntKind.u32 1] 62)
    rw [World.size_alloc] at h
    exact ⟨_, h⟩
  have h := heap_alloc_new (w.alloc (Obj.cells #[Value.bool false, Value.slice none 0 0, Value.slice (some ⟨w.heap.size + 1, 0, none⟩) 1 1] 36)) (Obj.cells #[Value.int IntKind.u32 1] 62)
  have hz : (w.alloc (Obj.cells #[Value.bool false, Value.slice none 0 0, Value.slice (some ⟨w.heap.size + 1, 0, none⟩) 1 1] 36)).heap.size = w.heap.size + 1 := by simp
  rw [hz] at h
  rw [cell_of_row _ _ 0 _ 62 (0, 0) h]; rfl
theorem Over_form (neg : Bool) (a b : Option Addr) (ca cb : Nat) (la lb : List Nat) (w : World) (hca : la.length ≤ ca) (hcb : lb.length ≤ cb) (hla : la.length ≤ 70368744177663) (hlb : lb.length ≤ 70368744177663) (hra : Rd w a la) (hrb : Rd w b lb) (hma : Lim la) (hmb : Lim lb) :
    Calls Tryz.prog 33 #[.bool neg, .slice a la.length ca, .slice b lb.length cb] w fun e w' => RatF w w' e neg (val la) (val lb) := by
  by_cases hb : val lb = 0
  · refine (Over_zero neg a b ca cb la lb w hca hcb hla hlb hra hrb (nl_val.2 hb)).mono ?_
    rintro e w' ⟨rfl, k⟩
    exact ⟨none, 0, [], none, 0, [], by simp [RS, RE, hb], by simp, by simp, Rd.nil _ _, Rd.nil _ _, by intro x hx; simp at hx, by intro x hx; simp at hx, by simp [Nrm], by simp [Nrm], by simp [RN, hb, val], by simp [RD, hb, val], TB.none _, TB.none _, k⟩
  · have hb' : nl lb ≠ 0 := fun h => hb (nl_val.1 h)
    by_cases ha : val la = 0
    · refine (Over_nought neg a b ca cb la lb w hca hcb hla hlb hra hrb hb' (nl_val.2 ha)).mono ?_
      rintro e w' ⟨g, rfl, r, tb, k⟩
      refine ⟨none, 0, [], some ⟨g, 0, none⟩, 1, [1], by simp [RS, RE, ha, hb], by simp, by simp, Rd.nil _ _, r, by intro x hx; simp at hx, by intro x hx; simp at hx; omega, by simp [Nrm], by simp [Nrm], by simp [RN, ha, val], ?_, TB.none _, tb, k⟩
      simp [RD, ha, hb, val]
      exact (Nat.div_self (by omega)).symm
    · refine (Over_full neg a b ca cb la lb w hca hcb hla hlb hra hrb hma hmb hb' (fun h => ha (nl_val.1 h))).mono ?_
      rintro e w' ⟨vn, vd, rfl, nn, nd, k⟩
      obtain ⟨an, cn, ln, rfl, h1, h2, h3, h4, h5, h6⟩ := nn.shape
      obtain ⟨ad, cd, ld, rfl, i1, i2, i3, i4, i5, i6⟩ := nd.shape
      exact ⟨an, cn, ln, ad, cd, ld, by simp [RS, RE, ha, hb], h1, i1, h2, i2, h3, i3, h4, i4, by simp [RN, hb, h5], by simp [RD, hb, i5], TB.of_res h6, TB.of_res i6, k⟩
end Go.Proofs.YtinjikoocegooaaGreatDoor.Li
set_option linter.unusedVariables false
set_option linter.unusedSimpArgs false
namespace Go.Proofs.YtinjikoocegooaaGreatDoor.Li
open Go.RowKit Lb
theorem Own.rd {B : Nat} {w : World} {a : Option Addr} {c : Nat} {l : List Nat} (h : Own B w (.slice a l.length c) l) : Rd w a l := by
  obtain ⟨a5, c5, e5, hc5, r5⟩ := h.shape
  simp only [Value.slice.injEq, true_and] at e5
  rw [e5.1]; exact r5
/-- A slice of its own behind a store into a quotient's variable. -/
theorem Own.box {B g : Nat} {w : World} {a : Option Addr} {c : Nat} {l : List Nat} (h : Own B w (.slice a l.length c) l) (hg : g < B) (x y z : Value) : Rd (((w.setCell ⟨g, 0, none⟩ x).setCell ⟨g, 1, none⟩ y).setCell ⟨g, 2, none⟩ z) a l :=
  (((h.mut ((Mut.refl g w).setCell 0 x) hg).mut ((Mut.refl g _).setCell 1 y) hg).mut ((Mut.refl g _).setCell 2 z) hg).rd
end Go.Proofs.YtinjikoocegooaaGreatDoor.Li
set_option linter.unusedVariables false
set_option linter.unusedSimpArgs false
namespace Go.Proofs.YtinjikoocegooaaGreatDoor.Li
open Go.RowKit Lb
/-- A quotient that came in: two naturals that can be read. -/
structure Arg2 (w : World) (a : Option Addr) (ca : Nat) (la : List Nat) (b : Option Addr) (cb : Nat) (lb : List Nat) : Prop where
  hca : la.length ≤ ca
  hcb : lb.length ≤ cb
  hla : la.length ≤ 16777216
  hlb : lb.length ≤ 16777216
  hra : Rd w a la
  hrb : Rd w b lb
  hma : Lim la
  hmb : Lim lb
theorem Arg2.keep {w w' : World} {a : Option Addr} {ca : Nat} {la : List Nat} {b : Option Addr} {cb : Nat} {lb : List Nat} (h : Arg2 w a ca la b cb lb) (k : Keep w w') : Arg2 w' a ca la b cb lb :=
  ⟨h.hca, h.hcb, h.hla, h.hlb, h.hra.keep k, h.hrb.keep k, h.hma, h.hmb⟩
/-- Two quotients' variables, and one for what is answered. -/
theorem lay3 (w : World) (x0 x1 x2 y0 y1 y2 z0 z1 z2 : Value) : ∃ W, W = ((w.alloc (Obj.cells #[x0, x1, x2] 36)).alloc (Obj.cells #[y0, y1, y2] 36)).alloc (Obj.cells #[z0, z1, z2] 36) ∧
    Box W w.heap.size x0 x1 x2 ∧ Box W (w.heap.size + 1) y0 y1 y2 ∧ Box W (w.heap.size + 1 + 1) z0 z1 z2 ∧ Keep w W ∧ w.heap.size + 1 + 1 < W.heap.size := by
  refine ⟨_, rfl, ?_, ?_, ?_, (((Keep.refl w).alloc _).alloc _).alloc _, by simp⟩
  · exact ((Box.new w x0 x1 x2).keep ((Keep.refl _).alloc _)).keep ((Keep.refl _).alloc _)
  · have := (Box.new (w.alloc (Obj.cells #[x0, x1, x2] 36)) y0 y1 y2).keep ((Keep.refl _).alloc (Obj.cells #[z0, z1, z2] 36))
    simpa using this
  · have := Box.new ((w.alloc (Obj.cells #[x0, x1, x2] 36)).alloc (Obj.cells #[y0, y1, y2] 36)) z0 z1 z2
    simpa using this
theorem lay2 (w : World) (x0 x1 x2 y0 y1 y2 : Value) : ∃ W, W = (w.alloc (Obj.cells #[x0, x1, x2] 36)).alloc (Obj.cells #[y0, y1, y2] 36) ∧
    Box W w.heap.size x0 x1 x2 ∧ Box W (w.heap.size + 1) y0 y1 y2 ∧ Keep w W := by
  refine ⟨_, rfl, ?_, ?_, ((Keep.refl w).alloc _).alloc _⟩
  · exact (Box.new w x0 x1 x2).keep ((Keep.refl _).alloc _)
  · have := Box.new (w.alloc (Obj.cells #[x0, x1, x2] 36)) y0 y1 y2
    simpa using this
theorem mul_few {la lb l : List Nat} (ma : Lim la) (mb : Lim lb) (n : Nrm l) (e : val l = val la * val lb) : l.length ≤ la.length + lb.length := len_le_pow n _ (by
  rw [e, Nat.pow_add]
  exact Nat.mul_lt_mul_of_lt_of_le (val_lt ma) (Nat.le_of_lt (val_lt mb)) (Nat.pos_of_ne_zero (by simp)))
/-- Limbs do not lie in a quotient's variable. -/
theorem rd_box {w : World} {a : Option Addr} {l : List Nat} {g : Nat} {p q r : Value} (h : Rd w a l) (hb : Box w g p q r) (hp : ∀ x, p ≠ .int .u32 x) (hq : ∀ x, q ≠ .int .u32 x) (hr : ∀ x, r ≠ .int .u32 x) (x y z : Value) : Rd (((w.setCell ⟨g, 0, none⟩ x).setCell ⟨g, 1, none⟩ y).setCell ⟨g, 2, none⟩ z) a l := by
  have ho : Off g a l := by
    intro b o s e hne
    rintro rfl
    obtain ⟨b', o', e', hc⟩ := h 0 (List.length_pos_iff.2 hne)
    rw [e'] at e
    simp only [Option.some.injEq, Addr.mk.injEq] at e
    obtain ⟨rfl, rfl, -⟩ := e
    have h1 := cell_of_row w b' (o' + 0) _ 36 (0, 0) hb
    rw [hc] at h1
    match o', h1 with
    | 0, h1 => simp at h1; exact hp _ h1.symm
    | 1, h1 => simp at h1; exact hq _ h1.symm
    | 2, h1 => simp at h1; exact hr _ h1.symm
    | n + 3, h1 => simp at h1
  exact h.mut ((((Mut.refl g w).setCell 0 x).setCell 1 y).setCell 2 z) ho
/-- What is answered, behind a store into the variable of the answer. -/
theorem RatF.box {w w1 w' : World} {e : Ending} {neg : Bool} {N D : Nat} (h : RatF w1 w' e neg N D) (k : Keep w w1) {g : Nat} (hg : w.heap.size ≤ g) (hb : Box w1 g (.bool false) (.slice none 0 0) (.slice none 0 0)) :
    ∃ (an : Option Addr) (cn : Nat) (ln : List Nat) (ad : Option Addr) (cd : Nat) (ld : List Nat), e = .returned (.tuple #[.agg #[.bool (RS neg N D), .slice an (List.length ln) cn, .slice ad (List.length ld) cd], .int .i64 (RE D)]) ∧ (∀ x y z, RatF w (((w'.setCell ⟨g, 0, none⟩ x).setCell ⟨g, 1, none⟩ y).setCell ⟨g, 2, none⟩ z) (.returned (.tuple #[.agg #[.bool (RS neg N D), .slice an (List.length ln) cn, .slice ad (List.length ld) cd], .int .i64 (RE D)])) neg N D) ∧ Keep w1 w' := by
  obtain ⟨an, cn, ln, ad, cd, ld, he, h1, i1, h2, i2, h3, i3, h4, i4, h5, i5, b1, b2, k'⟩ := h
  have hbx' := hb.keep k'
  refine ⟨an, cn, ln, ad, cd, ld, he, fun x' y' z' => ⟨an, cn, ln, ad, cd, ld, rfl, h1, i1, ?_, ?_, h3, i3, h4, i4, h5, i5, ((b1.set _ _ _).set _ _ _).set _ _ _, ((b2.set _ _ _).set _ _ _).set _ _ _, ?_⟩, k'⟩
  · exact rd_box h2 hbx' (by simp) (by simp) (by simp) _ _ _
  · exact rd_box i2 hbx' (by simp) (by simp) (by simp) _ _ _
  · exact (((k.trans k').setCell hg _).setCell hg _).setCell hg _
end Go.Proofs.YtinjikoocegooaaGreatDoor.Li
