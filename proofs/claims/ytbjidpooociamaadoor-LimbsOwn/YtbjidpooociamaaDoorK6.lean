import Derived.Test.YtbjidpooociamaaDoorI5
import Derived.Test.YtbjidpooociamaaDoorC12
import Derived.Test.YtbjidpooociamaaDoorC18
import Derived.Test.YtbjidpooociamaaDoorD7
import Derived.Deep.RegionHeld3
set_option linter.unusedVariables false
set_option linter.unusedSimpArgs false
namespace Go.Proofs.YtbjidpooociamaaDoor
open Go.RowKit Lb
def RN (N D : Nat) : Nat := if D = 0 then 0 else N / Nat.gcd N D
def RD (N D : Nat) : Nat := if D = 0 then 0 else D / Nat.gcd N D
def RS (neg : Bool) (N D : Nat) : Bool := if D = 0 ∨ N = 0 then false else neg
def RE (D : Nat) : Int := if D = 0 then 11 else 0
/-- What a call answers: a quotient in its lowest terms, and an error. -/
def RatF (w w' : World) (e : Ending) (neg : Bool) (N D : Nat) : Prop :=
  ∃ an cn ln ad cd ld, e = .returned (.tuple #[.agg #[.bool (RS neg N D), .slice an (List.length ln) cn, .slice ad (List.length ld) cd], .int .i64 (RE D)]) ∧ ln.length ≤ cn ∧ ld.length ≤ cd ∧ Rd w' an ln ∧ Rd w' ad ld ∧ Lim ln ∧ Lim ld ∧ Nrm ln ∧ Nrm ld ∧ val ln = RN N D ∧ val ld = RD N D ∧ Keep w w'
theorem nl_val {l : List Nat} : nl l = 0 ↔ val l = 0 := by
  constructor
  · intro h
    have := val_take_nl l
    rw [h] at this
    rw [← this]; simp [val]
  · intro h
    by_cases h0 : nl l = 0
    · exact h0
    · have h1 := val_ge_len l h0
      have h2 : 0 < 2 ^ (lenB l - 1) := Nat.pos_of_ne_zero (by simp)
      omega
theorem divide_all : DivideSaid 70368744177663 := fun a b ca cb la lb w h1 h2 h3 h4 h5 h6 h7 h8 h9 =>
  divide_any a b ca cb la lb w h1 (by omega) h3 h4 h5 h6 h7 h8 h9
theorem one_limb {w : World} {g : Nat} (h : w.cell? ⟨g, 0, none⟩ = some (.int .u32 1)) : Rd w (some ⟨g, 0, none⟩) [1] := by
  intro j hj
  obtain rfl : j = 0 := by simp at hj; omega
  exact ⟨_, _, rfl, h⟩
set_option maxRecDepth 100000 in
set_option maxHeartbeats 800000 in
theorem Over_full (neg : Bool) (a b : Option Addr) (ca cb : Nat) (la lb : List Nat) (w : World) (hca : la.length ≤ ca) (hcb : lb.length ≤ cb) (hla : la.length ≤ 70368744177663) (hlb : lb.length ≤ 70368744177663) (hra : Rd w a la) (hrb : Rd w b lb)
    (hma : Lim la) (hmb : Lim lb) (hb0 : nl lb ≠ 0) (ha0 : nl la ≠ 0) :
    Calls Tryd.prog 50 #[.bool neg, .slice a la.length ca, .slice b lb.length cb] w fun e w' => ∃ vn vd, e = .returned (.tuple #[.agg #[.bool neg, vn, vd], .int .i64 0]) ∧ NatR w.heap.size w' vn (val la / Nat.gcd (val la) (val lb)) ∧ NatR w.heap.size w' vd (val lb / Nat.gcd (val la) (val lb)) ∧ Keep w w' := by
  have hk : Keep w (w.alloc (Obj.cells #[Value.bool false, Value.slice none 0 0, Value.slice none 0 0] 47)) := (Keep.refl w).alloc _
  have hbox := Box.new w (Value.bool false) (Value.slice none 0 0) (Value.slice none 0 0)
  have t1 := trim_any a ca la _ hca (by omega) (hra.keep hk)
  have t2 := trim_any b cb lb _ hcb (by omega) (hrb.keep hk)
  have h0 : ((nl lb : Int) == 0) = false := by simp; omega
  have h0' : ((nl la : Int) == 0) = false := by simp; omega
  have l1 := nl_le la
  have l2 := nl_le lb
  have e1 : (la.take (nl la)).length = nl la := by simp; omega
  have e2 : (lb.take (nl lb)).length = nl lb := by simp; omega
  have a0 : la.take (nl la) ≠ [] := by intro h; rw [h] at e1; simp at e1; omega
  have b0 : lb.take (nl lb) ≠ [] := by intro h; rw [h] at e2; simp at e2; omega
  have va := val_take_nl la
  have vb := val_take_nl lb
  have na := Nrm_take la
  have nb := Nrm_take lb
  have ma := Lim_take hma (nl la)
  have mb := Lim_take hmb (nl lb)
  have ra := hra.take (nl la)
  have rb := hrb.take (nl lb)
  have vb0 : 0 < val lb := by
    rw [← vb]
    have h1 := val_ge nb b0
    have h2 : 0 < 4294967296 ^ ((lb.take (nl lb)).length - 1) := Nat.pos_of_ne_zero (by simp)
    omega
  generalize la.take (nl la) = x at *
  generalize lb.take (nl lb) = y at *
  go_enter Tryd.func50, Tryd.ntmps50
  go_wp2_with fail
  refine t1.mono ?_
  rintro e w' ⟨rfl, rfl⟩
  go_wp2_with fail
  refine t2.mono ?_
  rintro e w' ⟨rfl, rfl⟩
  go_wp2_with fail
  clear t1 t2
  generalize w.alloc _ = w1 at hk hbox ⊢
  have g1 := divisor_all a b ca cb x y w1 (by omega) (by omega) (by omega) (by omega) (ra.keep hk) (rb.keep hk) ma mb na nb
  rw [e1, e2, va, vb] at g1
  refine g1.mono ?_
  rintro e w2 ⟨v, rfl, hg, hk2⟩
  obtain ⟨ag, cg, lg, rfl, hcg, hrg, hmg, ng, hvg, -⟩ := hg.shape
  have hg0 : 0 < Nat.gcd (val la) (val lb) := Nat.gcd_pos_of_pos_right _ vb0
  have lg0 : lg ≠ [] := by intro h; rw [h] at hvg; simp [val] at hvg; omega
  have lgl : lg.length ≤ y.length := by
    rcases Nat.lt_or_ge y.length lg.length with h | h
    · have h1 := len_lt_val mb ng h
      have h2 := Nat.gcd_le_right (val la) vb0
      omega
    · exact h
  have hk02 := hk.trans hk2
  have d1 := divide_all a ag ca cg x lg w2 (by omega) (by omega) (ra.keep hk02) hrg ma hmg na ng lg0
  rw [e1, va, hvg] at d1
  clear g1 hg
  go_wp2_with fail
  refine d1.mono ?_
  rintro e w3 ⟨vq, vr, rfl, hq, hr3, hk3⟩
  obtain ⟨aq, cq, lq, rfl, -⟩ := hq.shape
  obtain ⟨ar3, cr3, lr3, rfl, -⟩ := hr3.shape
  have hk03 := hk02.trans hk3
  have d2 := divide_all b ag cb cg y lg w3 (by omega) (by omega) (rb.keep hk03) (hrg.keep hk3) mb hmg nb ng lg0
  rw [e2, vb, hvg] at d2
  clear d1
  go_wp2_with fail
  refine d2.mono ?_
  rintro e w4 ⟨vq2, vr2, rfl, hq2, hr4, hk4⟩
  obtain ⟨aq2, cq2, lq2, rfl, -⟩ := hq2.shape
  obtain ⟨ar4, cr4, lr4, rfl, -⟩ := hr4.shape
  have hk04 := hk03.trans hk4
  have hbox4 := ((hbox.keep hk2).keep hk3).keep hk4
  obtain ⟨c0, c1, c2⟩ := hbox4.cells
  have f0 := hbox4.free 0
  have f1 := hbox4.free 1
  have f2 := hbox4.free 2
  clear d2
  have hsz : w.heap.size < w4.heap.size := (Array.getElem?_eq_some_iff.1 hbox4).1
  go_wp2
  have hs1 : w.heap.size < w1.heap.size := (Array.getElem?_eq_some_iff.1 hbox).1
  have hs2 := hk2.le
  have hs3 := hk3.le
  refine bodyPost_ret (v := .tuple #[.agg #[.bool neg, .slice aq lq.length cq, .slice aq2 lq2.length cq2], .int .i64 0]) (by simp [results, Tryd.results50, go_sem, World.cell?_setCell_other, World.cell?_setCell_same, c0, c1, c2]) rfl ⟨_, _, rfl, ?_, ?_, ?_⟩
  · exact NatR.mono ((((hq.keep hk4).mut ((Mut.refl _ _).setCell _ _) (by omega)).mut ((Mut.refl _ _).setCell _ _) (by omega)).mut ((Mut.refl _ _).setCell _ _) (by omega)) (by omega)
  · exact NatR.mono (((hq2.mut ((Mut.refl _ _).setCell _ _) (by omega)).mut ((Mut.refl _ _).setCell _ _) (by omega)).mut ((Mut.refl _ _).setCell _ _) (by omega)) (by omega)
  · exact ((hk04.setCell (Nat.le_refl _) _).setCell (Nat.le_refl _) _).setCell (Nat.le_refl _) _
set_option maxRecDepth 100000 in
set_option maxHeartbeats 800000 in
theorem Over_nought (neg : Bool) (a b : Option Addr) (ca cb : Nat) (la lb : List Nat) (w : World) (hca : la.length ≤ ca) (hcb : lb.length ≤ cb) (hla : la.length ≤ 70368744177663) (hlb : lb.length ≤ 70368744177663) (hra : Rd w a la) (hrb : Rd w b lb)
    (hb0 : nl lb ≠ 0) (ha0 : nl la = 0) :
    Calls Tryd.prog 50 #[.bool neg, .slice a la.length ca, .slice b lb.length cb] w fun e w' => ∃ g, e = .returned (.tuple #[.agg #[.bool false, .slice none 0 0, .slice (some ⟨g, 0, none⟩) 1 1], .int .i64 0]) ∧ Rd w' (some ⟨g, 0, none⟩) [1] ∧ Keep w w' := by
  have hk : Keep w (w.alloc (Obj.cells #[Value.bool false, Value.slice none 0 0, Value.slice none 0 0] 47)) := (Keep.refl w).alloc _
  have hbox := Box.new w (Value.bool false) (Value.slice none 0 0) (Value.slice none 0 0)
  have t1 := trim_any a ca la _ hca (by omega) (hra.keep hk)
  have t2 := trim_any b cb lb _ hcb (by omega) (hrb.keep hk)
  have h0 : ((nl lb : Int) == 0) = false := by simp; omega
  have h0' : ((nl la : Int) == 0) = true := by simp; omega
  clear hb0 ha0
  go_enter Tryd.func50, Tryd.ntmps50
  go_wp2_with fail
  refine t1.mono ?_
  rintro e w' ⟨rfl, rfl⟩
  go_wp2_with fail
  refine t2.mono ?_
  rintro e w' ⟨rfl, rfl⟩
  go_wp2_with fail
  refine bodyPost_ret (v := .tuple #[.agg #[.bool false, .slice none 0 0, .slice (some ⟨w.heap.size + 1, 0, none⟩) 1 1], .int .i64 0]) (by simp [results, Tryd.results50, go_sem]) rfl ⟨w.heap.size + 1, rfl, one_limb ?_, ((Keep.refl w).alloc _).alloc _⟩
  have h := heap_alloc_new (w.alloc (Obj.cells #[Value.bool false, Value.slice none 0 0, Value.slice (some ⟨w.heap.size + 1, 0, none⟩) 1 1] 47)) (Obj.cells #[Value.int IntKind.u32 1] 62)
  have hz : (w.alloc (Obj.cells #[Value.bool false, Value.slice none 0 0, Value.slice (some ⟨w.heap.size + 1, 0, none⟩) 1 1] 47)).heap.size = w.heap.size + 1 := by simp
  rw [hz] at h
  rw [cell_of_row _ _ 0 _ 62 (0, 0) h]; rfl
theorem Over_form (neg : Bool) (a b : Option Addr) (ca cb : Nat) (la lb : List Nat) (w : World) (hca : la.length ≤ ca) (hcb : lb.length ≤ cb) (hla : la.length ≤ 70368744177663) (hlb : lb.length ≤ 70368744177663) (hra : Rd w a la) (hrb : Rd w b lb) (hma : Lim la) (hmb : Lim lb) :
    Calls Tryd.prog 50 #[.bool neg, .slice a la.length ca, .slice b lb.length cb] w fun e w' => RatF w w' e neg (val la) (val lb) := by
  by_cases hb : val lb = 0
  · refine (Over_zero neg a b ca cb la lb w hca hcb hla hlb hra hrb (nl_val.2 hb)).mono ?_
    rintro e w' ⟨rfl, k⟩
    exact ⟨none, 0, [], none, 0, [], by simp [RS, RE, hb], by simp, by simp, Rd.nil _ _, Rd.nil _ _, by intro x hx; simp at hx, by intro x hx; simp at hx, by simp [Nrm], by simp [Nrm], by simp [RN, hb, val], by simp [RD, hb, val], k⟩
  · have hb' : nl lb ≠ 0 := fun h => hb (nl_val.1 h)
    by_cases ha : val la = 0
    · refine (Over_nought neg a b ca cb la lb w hca hcb hla hlb hra hrb hb' (nl_val.2 ha)).mono ?_
      rintro e w' ⟨g, rfl, r, k⟩
      refine ⟨none, 0, [], some ⟨g, 0, none⟩, 1, [1], by simp [RS, RE, ha, hb], by simp, by simp, Rd.nil _ _, r, by intro x hx; simp at hx, by intro x hx; simp at hx; omega, by simp [Nrm], by simp [Nrm], by simp [RN, ha, val], ?_, k⟩
      simp [RD, ha, hb, val]
      exact (Nat.div_self (by omega)).symm
    · refine (Over_full neg a b ca cb la lb w hca hcb hla hlb hra hrb hma hmb hb' (fun h => ha (nl_val.1 h))).mono ?_
      rintro e w' ⟨vn, vd, rfl, nn, nd, k⟩
      obtain ⟨an, cn, ln, rfl, h1, h2, h3, h4, h5, -⟩ := nn.shape
      obtain ⟨ad, cd, ld, rfl, i1, i2, i3, i4, i5, -⟩ := nd.shape
      exact ⟨an, cn, ln, ad, cd, ld, by simp [RS, RE, ha, hb], h1, i1, h2, i2, h3, i3, h4, i4, by simp [RN, hb, h5], by simp [RD, hb, i5], k⟩
end Go.Proofs.YtbjidpooociamaaDoor
namespace Go.Proofs.YtbjidpooociamaaDoor
open Go.RowKit Lb
theorem lenB_nought {l : List Nat} (hm : Lim l) : lenB l = 0 ↔ val l = 0 := by
  constructor
  · intro h
    have := val_lt_len l hm
    rw [h] at this
    simp at this
    exact this
  · intro h
    unfold lenB; rw [if_pos (nl_val.2 h)]
theorem gcd_quot (N D : Nat) (hD : D ≠ 0) : 0 < Nat.gcd N D ∧ Nat.gcd N D ≤ D := ⟨Nat.gcd_pos_of_pos_right _ (by omega), Nat.gcd_le_right _ (by omega)⟩
theorem Own.rd {B : Nat} {w : World} {a : Option Addr} {c : Nat} {l : List Nat} (h : Own B w (.slice a l.length c) l) : Rd w a l := by
  obtain ⟨a5, c5, e5, hc5, r5⟩ := h.shape
  simp only [Value.slice.injEq, true_and] at e5
  rw [e5.1]; exact r5
/-- A slice of its own behind a store into a quotient's variable. -/
theorem Own.box {B g : Nat} {w : World} {a : Option Addr} {c : Nat} {l : List Nat} (h : Own B w (.slice a l.length c) l) (hg : g < B) (x y z : Value) : Rd (((w.setCell ⟨g, 0, none⟩ x).setCell ⟨g, 1, none⟩ y).setCell ⟨g, 2, none⟩ z) a l :=
  (((h.mut ((Mut.refl g w).setCell 0 x) hg).mut ((Mut.refl g _).setCell 1 y) hg).mut ((Mut.refl g _).setCell 2 z) hg).rd
set_option maxRecDepth 100000 in
set_option maxHeartbeats 800000 in
theorem rOver_form (neg : Bool) (a b : Option Addr) (ca cb : Nat) (la lb : List Nat) (w : World) (hca : la.length ≤ ca) (hcb : lb.length ≤ cb) (hla : la.length ≤ 35184372087900) (hlb : lb.length ≤ 35184372087900) (hra : Rd w a la) (hrb : Rd w b lb) (hma : Lim la) (hmb : Lim lb) :
    Calls Tryd.prog 51 #[.bool neg, .slice a la.length ca, .slice b lb.length cb] w fun e w' => RatF w w' e neg (val la) (val lb) := by
  have hk : Keep w (w.alloc (Obj.cells #[Value.bool false, Value.slice none 0 0, Value.slice none 0 0] 47)) := (Keep.refl w).alloc _
  have hbox := Box.new w (Value.bool false) (Value.slice none 0 0) (Value.slice none 0 0)
  have hsz0 : (w.alloc (Obj.cells #[Value.bool false, Value.slice none 0 0, Value.slice none 0 0] 47)).heap.size = w.heap.size + 1 := by simp
  have cL1 := fun wx (h : Keep w wx) => rLen_any b cb lb wx hcb (by omega) (hrb.keep h) hmb
  have cL2 := fun wx (h : Keep w wx) => rLen_any a ca la wx hca (by omega) (hra.keep h) hma
  by_cases hb : val lb = 0
  · rw [(lenB_nought hmb).2 hb] at cL1
    have HR : Hid (∀ w', Keep w w' → RatF w w' (.returned (.tuple #[.agg #[.bool false, .slice none 0 0, .slice none 0 0], .int .i64 11])) neg (val la) (val lb)) := fun w' k =>
      ⟨none, 0, [], none, 0, [], by simp [RS, RE, hb], by simp, by simp, Rd.nil _ _, Rd.nil _ _, by intro x hx; simp at hx, by intro x hx; simp at hx, by simp [Nrm], by simp [Nrm], by simp [RN, hb, val], by simp [RD, hb, val], k⟩
    clear hb
    go_enter Tryd.func51, Tryd.ntmps51
    go_wp2_with fail
    generalize w.alloc _ = w1 at hk hbox hsz0 ⊢
    refine (cL1 w1 hk).mono ?_
    rintro e w2 ⟨rfl, k2⟩
    obtain ⟨x0, x1, x2⟩ := (hbox.keep k2).cells
    have f0 := (hbox.keep k2).free 0
    have f1 := (hbox.keep k2).free 1
    have f2 := (hbox.keep k2).free 2
    go_wp2_with fail
    refine bodyPost_ret (v := .tuple #[.agg #[.bool false, .slice none 0 0, .slice none 0 0], .int .i64 11]) (by simp [results, Tryd.results51, go_sem, World.cell?_setCell_other, World.cell?_setCell_same, x0, x1, x2]) rfl (HR.out _ ?_)
    exact (((hk.trans k2).setCell (Nat.le_refl _) _).setCell (Nat.le_refl _) _).setCell (Nat.le_refl _) _
  · have hlb0 : lenB lb ≠ 0 := fun h => hb ((lenB_nought hmb).1 h)
    have hvb0 : 0 < val lb := by omega
    generalize lenB lb = Lb0 at cL1 hlb0
    have hg1 : ((Lb0 : Int) == 0) = false := by simp; omega
    by_cases ha : val la = 0
    · rw [(lenB_nought hma).2 ha] at cL2
      have HR : Hid (∀ w' g c l, Keep w w' → l.length ≤ c → Rd w' g l → Lim l → Nrm l → val l = 1 → RatF w w' (.returned (.tuple #[.agg #[.bool false, .slice none 0 0, .slice g (List.length l) c], .int .i64 0])) neg (val la) (val lb)) := fun w' g c l k hc hr hm hn he =>
        ⟨none, 0, [], g, c, l, by simp [RS, RE, ha, hb], by simp, hc, Rd.nil _ _, hr, by intro x hx; simp at hx, hm, by simp [Nrm], hn, by simp [RN, ha, val], by simp [RD, ha, hb, he]; exact (Nat.div_self hvb0).symm, k⟩
      clear ha hb
      go_enter Tryd.func51, Tryd.ntmps51
      go_wp2_with fail
      generalize w.alloc _ = w1 at hk hbox hsz0 ⊢
      refine (cL1 w1 hk).mono ?_
      rintro e w2 ⟨rfl, k2⟩
      have hk2 := hk.trans k2
      go_wp2_with fail
      refine (cL2 w2 hk2).mono ?_
      rintro e w3 ⟨rfl, k3⟩
      have hk3 := hk2.trans k3
      have hF := rFrom_any 1 w3 (by omega)
      go_wp2_with fail
      refine hF.mono ?_
      rintro e w4 ⟨v4, l4, rfl, o4, m4, n4, e4, k4⟩
      have o4' := o4
      obtain ⟨a4, c4, rfl, hc4, r4⟩ := o4.shape
      have hbx := ((hbox.keep k2).keep k3).keep k4
      obtain ⟨x0, x1, x2⟩ := hbx.cells
      have f0 := hbx.free 0
      have f1 := hbx.free 1
      have f2 := hbx.free 2
      have hlt3 : w.heap.size < w3.heap.size := by have := k2.le; have := k3.le; omega
      clear hF
      go_wp2_with fail
      refine bodyPost_ret (v := .tuple #[.agg #[.bool false, .slice none 0 0, .slice a4 l4.length c4], .int .i64 0]) (by simp [results, Tryd.results51, go_sem, World.cell?_setCell_other, World.cell?_setCell_same, x0, x1, x2]) rfl (HR.out _ _ _ _ ?_ hc4 ?_ m4 n4 e4)
      · exact ((((hk3.trans k4).setCell (Nat.le_refl _) _).setCell (Nat.le_refl _) _).setCell (Nat.le_refl _) _)
      · exact o4'.box hlt3 _ _ _
    · have hla0 : lenB la ≠ 0 := fun h => ha ((lenB_nought hma).1 h)
      generalize lenB la = La0 at cL2 hla0
      have hg2 : ((La0 : Int) == 0) = false := by simp; omega
      have cG := fun wx (h : Keep w wx) => rGcd_any a b ca cb la lb wx hca hcb hla hlb (hra.keep h) (hrb.keep h) hma hmb
      obtain ⟨hgp, hgle⟩ := gcd_quot (val la) (val lb) hb
      have HR : Hid (∀ w' an cn ln ad cd ld, Keep w w' → ln.length ≤ cn → ld.length ≤ cd → Rd w' an ln → Rd w' ad ld → Lim ln → Lim ld → Nrm ln → Nrm ld → val ln = val la / Nat.gcd (val la) (val lb) → val ld = val lb / Nat.gcd (val la) (val lb) → RatF w w' (.returned (.tuple #[.agg #[.bool neg, .slice an (List.length ln) cn, .slice ad (List.length ld) cd], .int .i64 0])) neg (val la) (val lb)) := fun w' an cn ln ad cd ld k h1 i1 h2 i2 h3 i3 h4 i4 h5 i5 =>
        ⟨an, cn, ln, ad, cd, ld, by simp [RS, RE, ha, hb], h1, i1, h2, i2, h3, i3, h4, i4, by simp [RN, hb, h5], by simp [RD, hb, i5], k⟩
      generalize Nat.gcd (val la) (val lb) = G at *
      clear ha hb
      go_enter Tryd.func51, Tryd.ntmps51
      go_wp2_with fail
      generalize w.alloc _ = w1 at hk hbox hsz0 ⊢
      refine (cL1 w1 hk).mono ?_
      rintro e w2 ⟨rfl, k2⟩
      have hk2 := hk.trans k2
      go_wp2_with fail
      refine (cL2 w2 hk2).mono ?_
      rintro e w3 ⟨rfl, k3⟩
      have hk3 := hk2.trans k3
      go_wp2_with fail
      refine (cG w3 hk3).mono ?_
      rintro e w4 ⟨v4, l4, rfl, o4, m4, n4, e4, k4⟩
      obtain ⟨a4, c4, rfl, hc4, r4⟩ := o4.shape
      have hk4 := hk3.trans k4
      have hnl4 : nl l4 ≠ 0 := by intro h; have := nl_val.1 h; omega
      have hl4 : l4.length ≤ lb.length := by
        rcases Nat.lt_or_ge lb.length l4.length with h | h
        · have := len_lt_val hmb n4 h; omega
        · exact h
      have hD1 := rDivMod_any a a4 ca c4 la l4 w4 hca hc4 hla (by omega) (hra.keep hk4) r4 hma m4 hnl4
      rw [e4] at hD1
      clear cG cL1 cL2
      go_wp2_with fail
      refine hD1.mono ?_
      rintro e w5 ⟨vq, vr, lq, lr, rfl, oq, or5, mq, nq, eq, mr, nr, er, k5⟩
      have oq' := oq
      obtain ⟨aq, cq, rfl, hcq, rq⟩ := oq.shape
      obtain ⟨ar, cr, rfl, hcr, rr⟩ := or5.shape
      have hk5 := hk4.trans k5
      have hD2 := rDivMod_any b a4 cb c4 lb l4 w5 hcb hc4 hlb (by omega) (hrb.keep hk5) (r4.keep k5) hmb m4 hnl4
      rw [e4] at hD2
      clear hD1 er
      go_wp2_with fail
      refine hD2.mono ?_
      rintro e w6 ⟨vq6, vr6, lq6, lr6, rfl, oq6, or6, mq6, nq6, eq6, mr6, nr6, er6, k6⟩
      have oq6' := oq6
      obtain ⟨aq6, cq6, rfl, hcq6, rq6⟩ := oq6.shape
      obtain ⟨ar6, cr6, rfl, hcr6, rr6⟩ := or6.shape
      have hk6 := hk5.trans k6
      have hbx := ((((hbox.keep k2).keep k3).keep k4).keep k5).keep k6
      obtain ⟨x0, x1, x2⟩ := hbx.cells
      have f0 := hbx.free 0
      have f1 := hbx.free 1
      have f2 := hbx.free 2
      have hlt4 : w.heap.size < w4.heap.size := by have := k2.le; have := k3.le; have := k4.le; omega
      have hlt5 : w.heap.size < w5.heap.size := by have := k5.le; omega
      have oqk := oq'.keep k6
      clear hD2 er6
      go_wp2_with fail
      refine bodyPost_ret (v := .tuple #[.agg #[.bool neg, .slice aq lq.length cq, .slice aq6 lq6.length cq6], .int .i64 0]) (by simp [results, Tryd.results51, go_sem, World.cell?_setCell_other, World.cell?_setCell_same, x0, x1, x2]) rfl (HR.out _ _ _ _ _ _ _ ?_ hcq hcq6 ?_ ?_ mq mq6 nq nq6 eq eq6)
      · exact (((hk6.setCell (Nat.le_refl _) _).setCell (Nat.le_refl _) _).setCell (Nat.le_refl _) _)
      · exact oqk.box hlt4 _ _ _
      · exact oq6'.box hlt5 _ _ _
end Go.Proofs.YtbjidpooociamaaDoor
namespace Go.Proofs.YtbjidpooociamaaDoor
open Go.RowKit Lb
/-- A quotient that came in: two naturals that can be read. -/
structure Arg2 (w : World) (a : Option Addr) (ca : Nat) (la : List Nat) (b : Option Addr) (cb : Nat) (lb : List Nat) : Prop where
  hca : la.length ≤ ca
  hcb : lb.length ≤ cb
  hla : la.length ≤ 16777216
  hlb : lb.length ≤ 16777216
  hra : Rd w a la
  hrb : Rd w b lb
  hma : Lim la
  hmb : Lim lb
theorem Arg2.keep {w w' : World} {a : Option Addr} {ca : Nat} {la : List Nat} {b : Option Addr} {cb : Nat} {lb : List Nat} (h : Arg2 w a ca la b cb lb) (k : Keep w w') : Arg2 w' a ca la b cb lb :=
  ⟨h.hca, h.hcb, h.hla, h.hlb, h.hra.keep k, h.hrb.keep k, h.hma, h.hmb⟩
/-- Two quotients' variables, and one for what is answered. -/
theorem lay3 (w : World) (x0 x1 x2 y0 y1 y2 z0 z1 z2 : Value) : ∃ W, W = ((w.alloc (Obj.cells #[x0, x1, x2] 47)).alloc (Obj.cells #[y0, y1, y2] 47)).alloc (Obj.cells #[z0, z1, z2] 47) ∧
    Box W w.heap.size x0 x1 x2 ∧ Box W (w.heap.size + 1) y0 y1 y2 ∧ Box W (w.heap.size + 1 + 1) z0 z1 z2 ∧ Keep w W ∧ w.heap.size + 1 + 1 < W.heap.size := by
  refine ⟨_, rfl, ?_, ?_, ?_, (((Keep.refl w).alloc _).alloc _).alloc _, by simp⟩
  · exact ((Box.new w x0 x1 x2).keep ((Keep.refl _).alloc _)).keep ((Keep.refl _).alloc _)
  · have := (Box.new (w.alloc (Obj.cells #[x0, x1, x2] 47)) y0 y1 y2).keep ((Keep.refl _).alloc (Obj.cells #[z0, z1, z2] 47))
    simpa using this
  · have := Box.new ((w.alloc (Obj.cells #[x0, x1, x2] 47)).alloc (Obj.cells #[y0, y1, y2] 47)) z0 z1 z2
    simpa using this
theorem lay2 (w : World) (x0 x1 x2 y0 y1 y2 : Value) : ∃ W, W = (w.alloc (Obj.cells #[x0, x1, x2] 47)).alloc (Obj.cells #[y0, y1, y2] 47) ∧
    Box W w.heap.size x0 x1 x2 ∧ Box W (w.heap.size + 1) y0 y1 y2 ∧ Keep w W := by
  refine ⟨_, rfl, ?_, ?_, ((Keep.refl w).alloc _).alloc _⟩
  · exact (Box.new w x0 x1 x2).keep ((Keep.refl _).alloc _)
  · have := Box.new (w.alloc (Obj.cells #[x0, x1, x2] 47)) y0 y1 y2
    simpa using this
theorem mul_few {la lb l : List Nat} (ma : Lim la) (mb : Lim lb) (n : Nrm l) (e : val l = val la * val lb) : l.length ≤ la.length + lb.length := len_le_pow n _ (by
  rw [e, Nat.pow_add]
  exact Nat.mul_lt_mul_of_lt_of_le (val_lt ma) (Nat.le_of_lt (val_lt mb)) (Nat.pos_of_ne_zero (by simp)))
/-- Limbs do not lie in a quotient's variable. -/
theorem rd_box {w : World} {a : Option Addr} {l : List Nat} {g : Nat} {p q r : Value} (h : Rd w a l) (hb : Box w g p q r) (hp : ∀ x, p ≠ .int .u32 x) (hq : ∀ x, q ≠ .int .u32 x) (hr : ∀ x, r ≠ .int .u32 x) (x y z : Value) : Rd (((w.setCell ⟨g, 0, none⟩ x).setCell ⟨g, 1, none⟩ y).setCell ⟨g, 2, none⟩ z) a l := by
  have ho : Off g a l := by
    intro b o s e hne
    rintro rfl
    obtain ⟨b', o', e', hc⟩ := h 0 (List.length_pos_iff.2 hne)
    rw [e'] at e
    simp only [Option.some.injEq, Addr.mk.injEq] at e
    obtain ⟨rfl, rfl, -⟩ := e
    have h1 := cell_of_row w b' (o' + 0) _ 47 (0, 0) hb
    rw [hc] at h1
    match o', h1 with
    | 0, h1 => simp at h1; exact hp _ h1.symm
    | 1, h1 => simp at h1; exact hq _ h1.symm
    | 2, h1 => simp at h1; exact hr _ h1.symm
    | n + 3, h1 => simp at h1
  exact h.mut ((((Mut.refl g w).setCell 0 x).setCell 1 y).setCell 2 z) ho
/-- What is answered, behind a store into the variable of the answer. -/
theorem RatF.box {w w1 w' : World} {e : Ending} {neg : Bool} {N D : Nat} (h : RatF w1 w' e neg N D) (k : Keep w w1) {g : Nat} (hg : w.heap.size ≤ g) (hb : Box w1 g (.bool false) (.slice none 0 0) (.slice none 0 0)) :
    ∃ (an : Option Addr) (cn : Nat) (ln : List Nat) (ad : Option Addr) (cd : Nat) (ld : List Nat), e = .returned (.tuple #[.agg #[.bool (RS neg N D), .slice an (List.length ln) cn, .slice ad (List.length ld) cd], .int .i64 (RE D)]) ∧ (∀ x y z, RatF w (((w'.setCell ⟨g, 0, none⟩ x).setCell ⟨g, 1, none⟩ y).setCell ⟨g, 2, none⟩ z) (.returned (.tuple #[.agg #[.bool (RS neg N D), .slice an (List.length ln) cn, .slice ad (List.length ld) cd], .int .i64 (RE D)])) neg N D) ∧ Keep w1 w' := by
  obtain ⟨an, cn, ln, ad, cd, ld, he, h1, i1, h2, i2, h3, i3, h4, i4, h5, i5, k'⟩ := h
  have hbx' := hb.keep k'
  refine ⟨an, cn, ln, ad, cd, ld, he, fun x' y' z' => ⟨an, cn, ln, ad, cd, ld, rfl, h1, i1, ?_, ?_, h3, i3, h4, i4, h5, i5, ?_⟩, k'⟩
  · exact rd_box h2 hbx' (by simp) (by simp) (by simp) _ _ _
  · exact rd_box i2 hbx' (by simp) (by simp) (by simp) _ _ _
  · exact (((k.trans k').setCell hg _).setCell hg _).setCell hg _
end Go.Proofs.YtbjidpooociamaaDoor
namespace Go.Proofs.YtbjidpooociamaaDoor
open Go.RowKit Lb
set_option maxRecDepth 100000 in
set_option maxHeartbeats 1600000 in
theorem Times_form (n1 n2 : Bool) (a b c d : Option Addr) (ca cb cc cd : Nat) (la lb lc ld : List Nat) (w : World) (hA : Arg2 w a ca la b cb lb) (hB : Arg2 w c cc lc d cd ld) :
    Calls Tryd.prog 54 #[.agg #[.bool n1, .slice a la.length ca, .slice b lb.length cb], .agg #[.bool n2, .slice c lc.length cc, .slice d ld.length cd]] w fun e w' => RatF w w' e (n1 != n2) (val la * val lc) (val lb * val ld) := by
  obtain ⟨W, hW, B1, B2, B3, kW, hsz⟩ := lay3 w (.bool n1) (.slice a la.length ca) (.slice b lb.length cb) (.bool n2) (.slice c lc.length cc) (.slice d ld.length cd) (.bool false) (.slice none 0 0) (.slice none 0 0)
  have M1 := fun wx (hk : Keep w wx) => Mul_any a c ca cc la lc wx hA.hca hB.hca (by have := hA.hla; omega) (by have := hB.hla; omega) (hA.hra.keep hk) (hB.hra.keep hk) hA.hma hB.hma
  have M2 := fun wx (hk : Keep w wx) => Mul_any b d cb cd lb ld wx hA.hcb hB.hcb (by have := hA.hlb; omega) (by have := hB.hlb; omega) (hA.hrb.keep hk) (hB.hrb.keep hk) hA.hmb hB.hmb
  have q1 := hA.hla
  have q2 := hA.hlb
  have q3 := hB.hla
  have q4 := hB.hlb
  go_enter Tryd.func54, Tryd.ntmps54
  go_wp2_with fail
  rw [← hW]
  clear hW
  obtain ⟨x0, x1, x2⟩ := B1.cells
  obtain ⟨x3, x4, x5⟩ := B2.cells
  have Bd : Box W.drew (w.heap.size + 1 + 1) (.bool false) (.slice none 0 0) (.slice none 0 0) := B3
  have kd : Keep w W.drew := kW.drew
  have hgw : w.heap.size ≤ w.heap.size + 1 + 1 := by omega
  obtain ⟨g, hg⟩ : ∃ g, w.heap.size = g := ⟨_, rfl⟩
  rw [hg] at x0 x1 x2 x3 x4 x5 Bd
  rw [show w.heap.size + 1 + 1 = g + 1 + 1 by omega] at hgw
  rw [hg]
  clear hg
  have hn1 : ¬ (g = g + 1 + 1) := by omega
  have hn2 : ¬ (g + 1 + 1 = g) := by omega
  go_region_held3 (fun w' => w'.cell? ⟨g, 0, none⟩ = some (Value.bool n1) ∧ w'.cell? ⟨g, 1, none⟩ = some (Value.slice a la.length ca) ∧ w'.cell? ⟨g, 2, none⟩ = some (Value.slice b lb.length cb) ∧ w'.cell? ⟨g + 1, 0, none⟩ = some (Value.bool n2) ∧ w'.cell? ⟨g + 1, 1, none⟩ = some (Value.slice c lc.length cc) ∧ w'.cell? ⟨g + 1, 2, none⟩ = some (Value.slice d ld.length cd)) (go_keep) (first
    | (go_at_call_of 35 (Value.slice a la.length ca); refine (M1 _ ?_).mono ?_; exact kd; rintro e wA ⟨vA, rfl, nA, kA⟩; obtain ⟨aA, cA, lA, rfl, hcA, rA, mA, pA, eA, -⟩ := nA.natR.shape; have jA := mul_few hA.hma hB.hma pA eA; have k1 := kd.trans kA; have BA := Bd.keep kA; have s0 := Keep.cell kA x0; have s1 := Keep.cell kA x1; have s2 := Keep.cell kA x2; have s3 := Keep.cell kA x3; have s4 := Keep.cell kA x4; have s5 := Keep.cell kA x5)
    | (go_at_call_of 35 (Value.slice b lb.length cb); refine (M2 _ ?_).mono ?_; exact k1; rintro e wB ⟨vB, rfl, nB, kB⟩; obtain ⟨aB, cB, lB, rfl, hcB, rB, mB, pB, eB, -⟩ := nB.natR.shape; have jB := mul_few hA.hmb hB.hmb pB eB; have k2 := k1.trans kB; have BB := BA.keep kB; have rA2 := rA.keep kB; have t0 := Keep.cell kB s0; have t1 := Keep.cell kB s1; have t2 := Keep.cell kB s2; have t3 := Keep.cell kB s3; have t4 := Keep.cell kB s4; have t5 := Keep.cell kB s5)
    | (go_at_call 50; refine (Over_form _ aA aB cA cB lA lB wB hcA hcB ?_ ?_ rA2 rB mA mB).mono ?_; omega; omega; rintro e wC hC; rw [eA, eB] at hC; obtain ⟨an, cn, ln, ad, cm, lm, rfl, hfin, kC⟩ := hC.box k2 hgw BB; have BC := BB.keep kC; obtain ⟨z0, z1, z2⟩ := BC.cells; have f0 := BC.free 0; have f1 := BC.free 1; have f2 := BC.free 2; have u0 := Keep.cell kC t0; have u1 := Keep.cell kC t1; have u2 := Keep.cell kC t2; have u3 := Keep.cell kC t3; have u4 := Keep.cell kC t4; have u5 := Keep.cell kC t5))
  go_simp
  go_wp2_with fail
  refine bodyPost_ret (v := .tuple #[.agg #[.bool _, .slice an ln.length cn, .slice ad lm.length cm], .int .i64 (RE (val lb * val ld))]) (by simp [results, Tryd.results54, go_sem, World.cell?_setCell_other, World.cell?_setCell_same, z0, z1, z2]) rfl (hfin _ _ _)
set_option maxRecDepth 100000 in
set_option maxHeartbeats 400000 in
theorem isNought_any (a : Option Addr) (ca : Nat) (la : List Nat) (w : World) (hca : la.length ≤ ca) (hla : la.length ≤ 70368744177664) (hra : Rd w a la) :
    Calls Tryd.prog 87 #[.slice a la.length ca] w fun e w' => e = .returned (.bool (decide (val la = 0))) ∧ w' = w := by
  have t1 := trim_any a ca la w hca (by omega) hra
  have HN : Hid (decide (val la = 0) = ((nl la : Int) == 0)) := by
    show _ = _
    rw [Bool.eq_iff_iff]
    simp
    exact nl_val.symm
  go_enter Tryd.func87, Tryd.ntmps87
  go_wp2_with fail
  refine t1.mono ?_
  rintro e w1 ⟨rfl, rfl⟩
  go_wp2_with fail
  go_ret
  exact ⟨by rw [HN.out]; rfl, rfl⟩
set_option maxRecDepth 100000 in
set_option maxHeartbeats 1600000 in
theorem By_some (n1 n2 : Bool) (a b c d : Option Addr) (ca cb cc cd : Nat) (la lb lc ld : List Nat) (w : World) (hA : Arg2 w a ca la b cb lb) (hB : Arg2 w c cc lc d cd ld) (hd0 : val ld ≠ 0) :
    Calls Tryd.prog 55 #[.agg #[.bool n1, .slice a la.length ca, .slice b lb.length cb], .agg #[.bool n2, .slice c lc.length cc, .slice d ld.length cd]] w fun e w' => RatF w w' e (n1 != n2) (val la * val ld) (val lb * val lc) := by
  obtain ⟨W, hW, B1, B2, B3, kW, hsz⟩ := lay3 w (.bool n1) (.slice a la.length ca) (.slice b lb.length cb) (.bool n2) (.slice c lc.length cc) (.slice d ld.length cd) (.bool false) (.slice none 0 0) (.slice none 0 0)
  have M1 := fun wx (hk : Keep w wx) => Mul_any a d ca cd la ld wx hA.hca hB.hcb (by have := hA.hla; omega) (by have := hB.hlb; omega) (hA.hra.keep hk) (hB.hrb.keep hk) hA.hma hB.hmb
  have M2 := fun wx (hk : Keep w wx) => Mul_any b c cb cc lb lc wx hA.hcb hB.hca (by have := hA.hlb; omega) (by have := hB.hla; omega) (hA.hrb.keep hk) (hB.hra.keep hk) hA.hmb hB.hma
  have q1 := hA.hla
  have q2 := hA.hlb
  have q3 := hB.hla
  have q4 := hB.hlb
  go_enter Tryd.func55, Tryd.ntmps55
  go_wp2_with fail
  rw [← hW]
  clear hW
  have hN := fun wx (hk : Keep w wx) => isNought_any d cd ld wx hB.hcb (by have := hB.hlb; omega) (hB.hrb.keep hk)
  rw [decide_eq_false hd0] at hN
  refine (hN W kW).mono ?_
  rintro e w' ⟨rfl, hw'⟩
  have hw' := hw'.symm
  subst hw'
  clear hN
  obtain ⟨x0, x1, x2⟩ := B1.cells
  obtain ⟨x3, x4, x5⟩ := B2.cells
  go_wp2_with fail
  clear x0 x1 x2 x3 x4 x5
  obtain ⟨x0, x1, x2⟩ := B1.cells
  obtain ⟨x3, x4, x5⟩ := B2.cells
  have Bd : Box W.drew (w.heap.size + 1 + 1) (.bool false) (.slice none 0 0) (.slice none 0 0) := B3
  have kd : Keep w W.drew := kW.drew
  have hgw : w.heap.size ≤ w.heap.size + 1 + 1 := by omega
  obtain ⟨g, hg⟩ : ∃ g, w.heap.size = g := ⟨_, rfl⟩
  rw [hg] at x0 x1 x2 x3 x4 x5 Bd
  rw [show w.heap.size + 1 + 1 = g + 1 + 1 by omega] at hgw
  rw [hg]
  clear hg
  have hn1 : ¬ (g = g + 1 + 1) := by omega
  have hn2 : ¬ (g + 1 + 1 = g) := by omega
  go_region_held3 (fun w' => w'.cell? ⟨g, 0, none⟩ = some (Value.bool n1) ∧ w'.cell? ⟨g, 1, none⟩ = some (Value.slice a la.length ca) ∧ w'.cell? ⟨g, 2, none⟩ = some (Value.slice b lb.length cb) ∧ w'.cell? ⟨g + 1, 0, none⟩ = some (Value.bool n2) ∧ w'.cell? ⟨g + 1, 1, none⟩ = some (Value.slice c lc.length cc) ∧ w'.cell? ⟨g + 1, 2, none⟩ = some (Value.slice d ld.length cd)) (go_keep) (first
    | (go_at_call_of 35 (Value.slice a la.length ca); refine (M1 _ ?_).mono ?_; exact kd; rintro e wA ⟨vA, rfl, nA, kA⟩; obtain ⟨aA, cA, lA, rfl, hcA, rA, mA, pA, eA, -⟩ := nA.natR.shape; have jA := mul_few hA.hma hB.hmb pA eA; have k1 := kd.trans kA; have BA := Bd.keep kA; have s0 := Keep.cell kA x0; have s1 := Keep.cell kA x1; have s2 := Keep.cell kA x2; have s3 := Keep.cell kA x3; have s4 := Keep.cell kA x4; have s5 := Keep.cell kA x5)
    | (go_at_call_of 35 (Value.slice b lb.length cb); refine (M2 _ ?_).mono ?_; exact k1; rintro e wB ⟨vB, rfl, nB, kB⟩; obtain ⟨aB, cB, lB, rfl, hcB, rB, mB, pB, eB, -⟩ := nB.natR.shape; have jB := mul_few hA.hmb hB.hma pB eB; have k2 := k1.trans kB; have BB := BA.keep kB; have rA2 := rA.keep kB; have t0 := Keep.cell kB s0; have t1 := Keep.cell kB s1; have t2 := Keep.cell kB s2; have t3 := Keep.cell kB s3; have t4 := Keep.cell kB s4; have t5 := Keep.cell kB s5)
    | (go_at_call 50; refine (Over_form _ aA aB cA cB lA lB wB hcA hcB ?_ ?_ rA2 rB mA mB).mono ?_; omega; omega; rintro e wC hC; rw [eA, eB] at hC; obtain ⟨an, cn, ln, ad, cm, lm, rfl, hfin, kC⟩ := hC.box k2 hgw BB; have BC := BB.keep kC; obtain ⟨z0, z1, z2⟩ := BC.cells; have f0 := BC.free 0; have f1 := BC.free 1; have f2 := BC.free 2; have u0 := Keep.cell kC t0; have u1 := Keep.cell kC t1; have u2 := Keep.cell kC t2; have u3 := Keep.cell kC t3; have u4 := Keep.cell kC t4; have u5 := Keep.cell kC t5))
  go_simp
  go_wp2_with fail
  refine bodyPost_ret (v := .tuple #[.agg #[.bool _, .slice an ln.length cn, .slice ad lm.length cm], .int .i64 (RE (val lb * val lc))]) (by simp [results, Tryd.results55, go_sem, World.cell?_setCell_other, World.cell?_setCell_same, z0, z1, z2]) rfl (hfin _ _ _)
set_option maxRecDepth 100000 in
set_option maxHeartbeats 400000 in
theorem By_none (n1 n2 : Bool) (a b c d : Option Addr) (ca cb cc cd : Nat) (la lb lc ld : List Nat) (w : World) (hB : Arg2 w c cc lc d cd ld) (hd0 : val ld = 0) :
    Calls Tryd.prog 55 #[.agg #[.bool n1, .slice a la.length ca, .slice b lb.length cb], .agg #[.bool n2, .slice c lc.length cc, .slice d ld.length cd]] w fun e w' => e = .returned (.tuple #[.agg #[.bool false, .slice none 0 0, .slice none 0 0], .int .i64 11]) ∧ Keep w w' := by
  obtain ⟨W, hW, B1, B2, B3, kW, hsz⟩ := lay3 w (.bool n1) (.slice a la.length ca) (.slice b lb.length cb) (.bool n2) (.slice c lc.length cc) (.slice d ld.length cd) (.bool false) (.slice none 0 0) (.slice none 0 0)
  have hN := fun wx (hk : Keep w wx) => isNought_any d cd ld wx hB.hcb (by have := hB.hlb; omega) (hB.hrb.keep hk)
  rw [decide_eq_true hd0] at hN
  go_enter Tryd.func55, Tryd.ntmps55
  go_wp2_with fail
  rw [← hW]
  clear hW
  refine (hN W kW).mono ?_
  rintro e w' ⟨rfl, hw'⟩
  have hw' := hw'.symm
  subst hw'
  clear hN
  obtain ⟨z0, z1, z2⟩ := B3.cells
  have f0 := B3.free 0
  have f1 := B3.free 1
  have f2 := B3.free 2
  go_wp2_with fail
  refine bodyPost_ret (v := .tuple #[.agg #[.bool false, .slice none 0 0, .slice none 0 0], .int .i64 11]) (by simp [results, Tryd.results55, go_sem, World.cell?_setCell_other, World.cell?_setCell_same, z0, z1, z2]) rfl ⟨rfl, ?_⟩
  exact ((kW.setCell (by show _ ≤ w.heap.size + 1 + 1; omega) _).setCell (by show _ ≤ w.heap.size + 1 + 1; omega) _).setCell (by show _ ≤ w.heap.size + 1 + 1; omega) _
/-- The quotient that has nought below. -/
theorem RatF.none {w w' : World} {neg : Bool} {N D : Nat} (hD : D = 0) (k : Keep w w') : RatF w w' (.returned (.tuple #[.agg #[.bool false, .slice none 0 0, .slice none 0 0], .int .i64 11])) neg N D :=
  ⟨.none, 0, [], .none, 0, [], by simp [RS, RE, hD], by simp, by simp, Rd.nil _ _, Rd.nil _ _, by intro x hx; simp at hx, by intro x hx; simp at hx, by simp [Nrm], by simp [Nrm], by simp [RN, hD, val], by simp [RD, hD, val], k⟩
theorem By_form (n1 n2 : Bool) (a b c d : Option Addr) (ca cb cc cd : Nat) (la lb lc ld : List Nat) (w : World) (hA : Arg2 w a ca la b cb lb) (hB : Arg2 w c cc lc d cd ld) :
    Calls Tryd.prog 55 #[.agg #[.bool n1, .slice a la.length ca, .slice b lb.length cb], .agg #[.bool n2, .slice c lc.length cc, .slice d ld.length cd]] w fun e w' => RatF w w' e (n1 != n2) (val la * val ld) (if val ld = 0 then 0 else val lb * val lc) := by
  by_cases h : val ld = 0
  · refine (By_none n1 n2 a b c d ca cb cc cd la lb lc ld w hB h).mono ?_
    rintro e w' ⟨rfl, k⟩
    exact RatF.none (by rw [if_pos h]) k
  · rw [if_neg h]
    exact By_some n1 n2 a b c d ca cb cc cd la lb lc ld w hA hB h
end Go.Proofs.YtbjidpooociamaaDoor
namespace Go.Proofs.YtbjidpooociamaaDoor
open Go.RowKit Lb
set_option maxRecDepth 100000 in
set_option maxHeartbeats 400000 in
theorem rTimes_none0 (n1 n2 : Bool) (a b c d : Option Addr) (ca cb cc cd : Nat) (la lb lc ld : List Nat) (w : World) (hA : Arg2 w a ca la b cb lb) (_hB : Arg2 w c cc lc d cd ld) (h0 : val lb = 0) :
    Calls Tryd.prog 58 #[.agg #[.bool n1, .slice a la.length ca, .slice b lb.length cb], .agg #[.bool n2, .slice c lc.length cc, .slice d ld.length cd]] w fun e w' => e = .returned (.tuple #[.agg #[.bool false, .slice none 0 0, .slice none 0 0], .int .i64 11]) ∧ Keep w w' := by
  obtain ⟨W, hW, B1, B2, B3, kW, hsz⟩ := lay3 w (.bool n1) (.slice a la.length ca) (.slice b lb.length cb) (.bool n2) (.slice c lc.length cc) (.slice d ld.length cd) (.bool false) (.slice none 0 0) (.slice none 0 0)
  have cL0 := fun wx (hk : Keep w wx) => rLen_any b cb lb wx hA.hcb (by have := hA.hlb; omega) (hA.hrb.keep hk) hA.hmb
  rw [(lenB_nought hA.hmb).2 h0] at cL0
  go_enter Tryd.func58, Tryd.ntmps58
  go_wp2_with fail
  rw [← hW]
  clear hW
  refine (cL0 W kW).mono ?_
  rintro e v0 ⟨rfl, j0⟩
  have B1 := B1.keep j0
  have B2 := B2.keep j0
  have B3 := B3.keep j0
  have kW0 := kW.trans j0
  obtain ⟨x0, x1, x2⟩ := B1.cells
  obtain ⟨x3, x4, x5⟩ := B2.cells
  obtain ⟨z0, z1, z2⟩ := B3.cells
  have f0 := B3.free 0
  have f1 := B3.free 1
  have f2 := B3.free 2
  go_wp2_with fail
  refine bodyPost_ret (v := .tuple #[.agg #[.bool false, .slice none 0 0, .slice none 0 0], .int .i64 11]) (by simp [results, Tryd.results58, go_sem, World.cell?_setCell_other, World.cell?_setCell_same, z0, z1, z2]) rfl ⟨rfl, ?_⟩
  exact ((kW0.setCell (by show _ ≤ w.heap.size + 1 + 1; omega) _).setCell (by show _ ≤ w.heap.size + 1 + 1; omega) _).setCell (by show _ ≤ w.heap.size + 1 + 1; omega) _
set_option maxRecDepth 100000 in
set_option maxHeartbeats 400000 in
theorem rTimes_none1 (n1 n2 : Bool) (a b c d : Option Addr) (ca cb cc cd : Nat) (la lb lc ld : List Nat) (w : World) (hA : Arg2 w a ca la b cb lb) (hB : Arg2 w c cc lc d cd ld) (h0 : val lb ≠ 0) (h1 : val ld = 0) :
    Calls Tryd.prog 58 #[.agg #[.bool n1, .slice a la.length ca, .slice b lb.length cb], .agg #[.bool n2, .slice c lc.length cc, .slice d ld.length cd]] w fun e w' => e = .returned (.tuple #[.agg #[.bool false, .slice none 0 0, .slice none 0 0], .int .i64 11]) ∧ Keep w w' := by
  obtain ⟨W, hW, B1, B2, B3, kW, hsz⟩ := lay3 w (.bool n1) (.slice a la.length ca) (.slice b lb.length cb) (.bool n2) (.slice c lc.length cc) (.slice d ld.length cd) (.bool false) (.slice none 0 0) (.slice none 0 0)
  have cL0 := fun wx (hk : Keep w wx) => rLen_any b cb lb wx hA.hcb (by have := hA.hlb; omega) (hA.hrb.keep hk) hA.hmb
  have w0 : lenB lb ≠ 0 := fun h => h0 ((lenB_nought hA.hmb).1 h)
  generalize lenB lb = N0 at cL0 w0
  have g0 : ((N0 : Int) == 0) = false := by simp; omega
  have cL1 := fun wx (hk : Keep w wx) => rLen_any d cd ld wx hB.hcb (by have := hB.hlb; omega) (hB.hrb.keep hk) hB.hmb
  rw [(lenB_nought hB.hmb).2 h1] at cL1
  go_enter Tryd.func58, Tryd.ntmps58
  go_wp2_with fail
  rw [← hW]
  clear hW
  refine (cL0 W kW).mono ?_
  rintro e v0 ⟨rfl, j0⟩
  have B1 := B1.keep j0
  have B2 := B2.keep j0
  have B3 := B3.keep j0
  have kW0 := kW.trans j0
  obtain ⟨x0, x1, x2⟩ := B1.cells
  obtain ⟨x3, x4, x5⟩ := B2.cells
  obtain ⟨z0, z1, z2⟩ := B3.cells
  have f0 := B3.free 0
  have f1 := B3.free 1
  have f2 := B3.free 2
  go_wp2_with fail
  clear x0 x1 x2 x3 x4 x5 z0 z1 z2 f0 f1 f2
  refine (cL1 v0 kW0).mono ?_
  rintro e v1 ⟨rfl, j1⟩
  have B1 := B1.keep j1
  have B2 := B2.keep j1
  have B3 := B3.keep j1
  have kW01 := kW0.trans j1
  obtain ⟨x0, x1, x2⟩ := B1.cells
  obtain ⟨x3, x4, x5⟩ := B2.cells
  obtain ⟨z0, z1, z2⟩ := B3.cells
  have f0 := B3.free 0
  have f1 := B3.free 1
  have f2 := B3.free 2
  go_wp2_with fail
  refine bodyPost_ret (v := .tuple #[.agg #[.bool false, .slice none 0 0, .slice none 0 0], .int .i64 11]) (by simp [results, Tryd.results58, go_sem, World.cell?_setCell_other, World.cell?_setCell_same, z0, z1, z2]) rfl ⟨rfl, ?_⟩
  exact ((kW01.setCell (by show _ ≤ w.heap.size + 1 + 1; omega) _).setCell (by show _ ≤ w.heap.size + 1 + 1; omega) _).setCell (by show _ ≤ w.heap.size + 1 + 1; omega) _
set_option maxRecDepth 100000 in
set_option maxHeartbeats 1600000 in
theorem rTimes_some (n1 n2 : Bool) (a b c d : Option Addr) (ca cb cc cd : Nat) (la lb lc ld : List Nat) (w : World) (hA : Arg2 w a ca la b cb lb) (hB : Arg2 w c cc lc d cd ld) (h0 : val lb ≠ 0) (h1 : val ld ≠ 0) :
    Calls Tryd.prog 58 #[.agg #[.bool n1, .slice a la.length ca, .slice b lb.length cb], .agg #[.bool n2, .slice c lc.length cc, .slice d ld.length cd]] w fun e w' => RatF w w' e (n1 != n2) (val la * val lc) (val lb * val ld) := by
  obtain ⟨W, hW, B1, B2, B3, kW, hsz⟩ := lay3 w (.bool n1) (.slice a la.length ca) (.slice b lb.length cb) (.bool n2) (.slice c lc.length cc) (.slice d ld.length cd) (.bool false) (.slice none 0 0) (.slice none 0 0)
  have cL0 := fun wx (hk : Keep w wx) => rLen_any b cb lb wx hA.hcb (by have := hA.hlb; omega) (hA.hrb.keep hk) hA.hmb
  have w0 : lenB lb ≠ 0 := fun h => h0 ((lenB_nought hA.hmb).1 h)
  generalize lenB lb = N0 at cL0 w0
  have g0 : ((N0 : Int) == 0) = false := by simp; omega
  have cL1 := fun wx (hk : Keep w wx) => rLen_any d cd ld wx hB.hcb (by have := hB.hlb; omega) (hB.hrb.keep hk) hB.hmb
  have w1 : lenB ld ≠ 0 := fun h => h1 ((lenB_nought hB.hmb).1 h)
  generalize lenB ld = N1 at cL1 w1
  have g1 : ((N1 : Int) == 0) = false := by simp; omega
  have M1 := fun wx (hk : Keep w wx) => rMul_any a c ca cc la lc wx (by have := hA.hla; omega) (by have := hB.hla; omega) (by have := hA.hla; have := hB.hla; omega) (hA.hra.keep hk) (hB.hra.keep hk) hA.hma hB.hma
  have M2 := fun wx (hk : Keep w wx) => rMul_any b d cb cd lb ld wx (by have := hA.hlb; omega) (by have := hB.hlb; omega) (by have := hA.hlb; have := hB.hlb; omega) (hA.hrb.keep hk) (hB.hrb.keep hk) hA.hmb hB.hmb
  have q1 := hA.hla
  have q2 := hA.hlb
  have q3 := hB.hla
  have q4 := hB.hlb
  go_enter Tryd.func58, Tryd.ntmps58
  go_wp2_with fail
  rw [← hW]
  clear hW
  refine (cL0 W kW).mono ?_
  rintro e v0 ⟨rfl, j0⟩
  have B1 := B1.keep j0
  have B2 := B2.keep j0
  have B3 := B3.keep j0
  have kW0 := kW.trans j0
  obtain ⟨x0, x1, x2⟩ := B1.cells
  obtain ⟨x3, x4, x5⟩ := B2.cells
  obtain ⟨z0, z1, z2⟩ := B3.cells
  have f0 := B3.free 0
  have f1 := B3.free 1
  have f2 := B3.free 2
  go_wp2_with fail
  clear x0 x1 x2 x3 x4 x5 z0 z1 z2 f0 f1 f2
  refine (cL1 v0 kW0).mono ?_
  rintro e v1 ⟨rfl, j1⟩
  have B1 := B1.keep j1
  have B2 := B2.keep j1
  have B3 := B3.keep j1
  have kW01 := kW0.trans j1
  obtain ⟨x0, x1, x2⟩ := B1.cells
  obtain ⟨x3, x4, x5⟩ := B2.cells
  obtain ⟨z0, z1, z2⟩ := B3.cells
  have f0 := B3.free 0
  have f1 := B3.free 1
  have f2 := B3.free 2
  go_wp2_with fail
  clear x0 x1 x2 x3 x4 x5 z0 z1 z2 f0 f1 f2
  obtain ⟨x0, x1, x2⟩ := B1.cells
  obtain ⟨x3, x4, x5⟩ := B2.cells
  have Bd : Box v1.drew (w.heap.size + 1 + 1) (.bool false) (.slice none 0 0) (.slice none 0 0) := B3
  have kd : Keep w v1.drew := kW01.drew
  have hgw : w.heap.size ≤ w.heap.size + 1 + 1 := by omega
  obtain ⟨g, hg⟩ : ∃ g, w.heap.size = g := ⟨_, rfl⟩
  rw [hg] at x0 x1 x2 x3 x4 x5 Bd
  rw [show w.heap.size + 1 + 1 = g + 1 + 1 by omega] at hgw
  rw [hg]
  clear hg
  have hn1 : ¬ (g = g + 1 + 1) := by omega
  have hn2 : ¬ (g + 1 + 1 = g) := by omega
  clear cL0 cL1 B1 B2
  go_region_held3 (fun w' => w'.cell? ⟨g, 0, none⟩ = some (Value.bool n1) ∧ w'.cell? ⟨g, 1, none⟩ = some (Value.slice a la.length ca) ∧ w'.cell? ⟨g, 2, none⟩ = some (Value.slice b lb.length cb) ∧ w'.cell? ⟨g + 1, 0, none⟩ = some (Value.bool n2) ∧ w'.cell? ⟨g + 1, 1, none⟩ = some (Value.slice c lc.length cc) ∧ w'.cell? ⟨g + 1, 2, none⟩ = some (Value.slice d ld.length cd)) (go_keep) (first
    | (go_at_call_of 36 (Value.slice a la.length ca); refine (M1 _ ?_).mono ?_; exact kd; rintro e wA ⟨vA, lA, rfl, oA, mA, pA, eA, kA⟩; obtain ⟨aA, cA, rfl, hcA, rA⟩ := oA.shape; have jA := mul_few hA.hma hB.hma pA eA; have k1 := kd.trans kA; have BA := Bd.keep kA; have s0 := Keep.cell kA x0; have s1 := Keep.cell kA x1; have s2 := Keep.cell kA x2; have s3 := Keep.cell kA x3; have s4 := Keep.cell kA x4; have s5 := Keep.cell kA x5)
    | (go_at_call_of 36 (Value.slice b lb.length cb); refine (M2 _ ?_).mono ?_; exact k1; rintro e wB ⟨vB, lB, rfl, oB, mB, pB, eB, kB⟩; obtain ⟨aB, cB, rfl, hcB, rB⟩ := oB.shape; have jB := mul_few hA.hmb hB.hmb pB eB; have k2 := k1.trans kB; have BB := BA.keep kB; have rA2 := rA.keep kB; have t0 := Keep.cell kB s0; have t1 := Keep.cell kB s1; have t2 := Keep.cell kB s2; have t3 := Keep.cell kB s3; have t4 := Keep.cell kB s4; have t5 := Keep.cell kB s5)
    | (go_at_call 51; refine (rOver_form _ aA aB cA cB lA lB wB hcA hcB ?_ ?_ rA2 rB mA mB).mono ?_; omega; omega; rintro e wC hC; rw [eA, eB] at hC; obtain ⟨an, cn, ln, ad, cm, lm, rfl, hfin, kC⟩ := hC.box k2 hgw BB; have BC := BB.keep kC; obtain ⟨z0, z1, z2⟩ := BC.cells; have f0 := BC.free 0; have f1 := BC.free 1; have f2 := BC.free 2; have u0 := Keep.cell kC t0; have u1 := Keep.cell kC t1; have u2 := Keep.cell kC t2; have u3 := Keep.cell kC t3; have u4 := Keep.cell kC t4; have u5 := Keep.cell kC t5))
  go_simp
  go_wp2_with fail
  refine bodyPost_ret (v := .tuple #[.agg #[.bool _, .slice an ln.length cn, .slice ad lm.length cm], .int .i64 (RE (val lb * val ld))]) (by simp [results, Tryd.results58, go_sem, World.cell?_setCell_other, World.cell?_setCell_same, z0, z1, z2]) rfl (hfin _ _ _)
theorem rTimes_form (n1 n2 : Bool) (a b c d : Option Addr) (ca cb cc cd : Nat) (la lb lc ld : List Nat) (w : World) (hA : Arg2 w a ca la b cb lb) (hB : Arg2 w c cc lc d cd ld) :
    Calls Tryd.prog 58 #[.agg #[.bool n1, .slice a la.length ca, .slice b lb.length cb], .agg #[.bool n2, .slice c lc.length cc, .slice d ld.length cd]] w fun e w' => RatF w w' e (n1 != n2) (val la * val lc) (val lb * val ld) := by
  by_cases h0 : val lb = 0
  · refine (rTimes_none0 n1 n2 a b c d ca cb cc cd la lb lc ld w hA hB h0).mono ?_
    rintro e w' ⟨rfl, k⟩
    exact RatF.none (by rw [h0, Nat.zero_mul]) k
  · by_cases h1 : val ld = 0
    · refine (rTimes_none1 n1 n2 a b c d ca cb cc cd la lb lc ld w hA hB h0 h1).mono ?_
      rintro e w' ⟨rfl, k⟩
      exact RatF.none (by rw [h1, Nat.mul_zero]) k
    · exact rTimes_some n1 n2 a b c d ca cb cc cd la lb lc ld w hA hB h0 h1
set_option maxRecDepth 100000 in
set_option maxHeartbeats 400000 in
theorem rBy_none0 (n1 n2 : Bool) (a b c d : Option Addr) (ca cb cc cd : Nat) (la lb lc ld : List Nat) (w : World) (hA : Arg2 w a ca la b cb lb) (_hB : Arg2 w c cc lc d cd ld) (h0 : val lb = 0) :
    Calls Tryd.prog 59 #[.agg #[.bool n1, .slice a la.length ca, .slice b lb.length cb], .agg #[.bool n2, .slice c lc.length cc, .slice d ld.length cd]] w fun e w' => e = .returned (.tuple #[.agg #[.bool false, .slice none 0 0, .slice none 0 0], .int .i64 11]) ∧ Keep w w' := by
  obtain ⟨W, hW, B1, B2, B3, kW, hsz⟩ := lay3 w (.bool n1) (.slice a la.length ca) (.slice b lb.length cb) (.bool n2) (.slice c lc.length cc) (.slice d ld.length cd) (.bool false) (.slice none 0 0) (.slice none 0 0)
  have cL0 := fun wx (hk : Keep w wx) => rLen_any b cb lb wx hA.hcb (by have := hA.hlb; omega) (hA.hrb.keep hk) hA.hmb
  rw [(lenB_nought hA.hmb).2 h0] at cL0
  go_enter Tryd.func59, Tryd.ntmps59
  go_wp2_with fail
  rw [← hW]
  clear hW
  refine (cL0 W kW).mono ?_
  rintro e v0 ⟨rfl, j0⟩
  have B1 := B1.keep j0
  have B2 := B2.keep j0
  have B3 := B3.keep j0
  have kW0 := kW.trans j0
  obtain ⟨x0, x1, x2⟩ := B1.cells
  obtain ⟨x3, x4, x5⟩ := B2.cells
  obtain ⟨z0, z1, z2⟩ := B3.cells
  have f0 := B3.free 0
  have f1 := B3.free 1
  have f2 := B3.free 2
  go_wp2_with fail
  refine bodyPost_ret (v := .tuple #[.agg #[.bool false, .slice none 0 0, .slice none 0 0], .int .i64 11]) (by simp [results, Tryd.results59, go_sem, World.cell?_setCell_other, World.cell?_setCell_same, z0, z1, z2]) rfl ⟨rfl, ?_⟩
  exact ((kW0.setCell (by show _ ≤ w.heap.size + 1 + 1; omega) _).setCell (by show _ ≤ w.heap.size + 1 + 1; omega) _).setCell (by show _ ≤ w.heap.size + 1 + 1; omega) _
set_option maxRecDepth 100000 in
set_option maxHeartbeats 400000 in
theorem rBy_none1 (n1 n2 : Bool) (a b c d : Option Addr) (ca cb cc cd : Nat) (la lb lc ld : List Nat) (w : World) (hA : Arg2 w a ca la b cb lb) (hB : Arg2 w c cc lc d cd ld) (h0 : val lb ≠ 0) (h1 : val ld = 0) :
    Calls Tryd.prog 59 #[.agg #[.bool n1, .slice a la.length ca, .slice b lb.length cb], .agg #[.bool n2, .slice c lc.length cc, .slice d ld.length cd]] w fun e w' => e = .returned (.tuple #[.agg #[.bool false, .slice none 0 0, .slice none 0 0], .int .i64 11]) ∧ Keep w w' := by
  obtain ⟨W, hW, B1, B2, B3, kW, hsz⟩ := lay3 w (.bool n1) (.slice a la.length ca) (.slice b lb.length cb) (.bool n2) (.slice c lc.length cc) (.slice d ld.length cd) (.bool false) (.slice none 0 0) (.slice none 0 0)
  have cL0 := fun wx (hk : Keep w wx) => rLen_any b cb lb wx hA.hcb (by have := hA.hlb; omega) (hA.hrb.keep hk) hA.hmb
  have w0 : lenB lb ≠ 0 := fun h => h0 ((lenB_nought hA.hmb).1 h)
  generalize lenB lb = N0 at cL0 w0
  have g0 : ((N0 : Int) == 0) = false := by simp; omega
  have cL1 := fun wx (hk : Keep w wx) => rLen_any d cd ld wx hB.hcb (by have := hB.hlb; omega) (hB.hrb.keep hk) hB.hmb
  rw [(lenB_nought hB.hmb).2 h1] at cL1
  go_enter Tryd.func59, Tryd.ntmps59
  go_wp2_with fail
  rw [← hW]
  clear hW
  refine (cL0 W kW).mono ?_
  rintro e v0 ⟨rfl, j0⟩
  have B1 := B1.keep j0
  have B2 := B2.keep j0
  have B3 := B3.keep j0
  have kW0 := kW.trans j0
  obtain ⟨x0, x1, x2⟩ := B1.cells
  obtain ⟨x3, x4, x5⟩ := B2.cells
  obtain ⟨z0, z1, z2⟩ := B3.cells
  have f0 := B3.free 0
  have f1 := B3.free 1
  have f2 := B3.free 2
  go_wp2_with fail
  clear x0 x1 x2 x3 x4 x5 z0 z1 z2 f0 f1 f2
  refine (cL1 v0 kW0).mono ?_
  rintro e v1 ⟨rfl, j1⟩
  have B1 := B1.keep j1
  have B2 := B2.keep j1
  have B3 := B3.keep j1
  have kW01 := kW0.trans j1
  obtain ⟨x0, x1, x2⟩ := B1.cells
  obtain ⟨x3, x4, x5⟩ := B2.cells
  obtain ⟨z0, z1, z2⟩ := B3.cells
  have f0 := B3.free 0
  have f1 := B3.free 1
  have f2 := B3.free 2
  go_wp2_with fail
  refine bodyPost_ret (v := .tuple #[.agg #[.bool false, .slice none 0 0, .slice none 0 0], .int .i64 11]) (by simp [results, Tryd.results59, go_sem, World.cell?_setCell_other, World.cell?_setCell_same, z0, z1, z2]) rfl ⟨rfl, ?_⟩
  exact ((kW01.setCell (by show _ ≤ w.heap.size + 1 + 1; omega) _).setCell (by show _ ≤ w.heap.size + 1 + 1; omega) _).setCell (by show _ ≤ w.heap.size + 1 + 1; omega) _
set_option maxRecDepth 100000 in
set_option maxHeartbeats 400000 in
theorem rBy_none2 (n1 n2 : Bool) (a b c d : Option Addr) (ca cb cc cd : Nat) (la lb lc ld : List Nat) (w : World) (hA : Arg2 w a ca la b cb lb) (hB : Arg2 w c cc lc d cd ld) (h0 : val lb ≠ 0) (h1 : val ld ≠ 0) (h2 : val lc = 0) :
    Calls Tryd.prog 59 #[.agg #[.bool n1, .slice a la.length ca, .slice b lb.length cb], .agg #[.bool n2, .slice c lc.length cc, .slice d ld.length cd]] w fun e w' => e = .returned (.tuple #[.agg #[.bool false, .slice none 0 0, .slice none 0 0], .int .i64 11]) ∧ Keep w w' := by
  obtain ⟨W, hW, B1, B2, B3, kW, hsz⟩ := lay3 w (.bool n1) (.slice a la.length ca) (.slice b lb.length cb) (.bool n2) (.slice c lc.length cc) (.slice d ld.length cd) (.bool false) (.slice none 0 0) (.slice none 0 0)
  have cL0 := fun wx (hk : Keep w wx) => rLen_any b cb lb wx hA.hcb (by have := hA.hlb; omega) (hA.hrb.keep hk) hA.hmb
  have w0 : lenB lb ≠ 0 := fun h => h0 ((lenB_nought hA.hmb).1 h)
  generalize lenB lb = N0 at cL0 w0
  have g0 : ((N0 : Int) == 0) = false := by simp; omega
  have cL1 := fun wx (hk : Keep w wx) => rLen_any d cd ld wx hB.hcb (by have := hB.hlb; omega) (hB.hrb.keep hk) hB.hmb
  have w1 : lenB ld ≠ 0 := fun h => h1 ((lenB_nought hB.hmb).1 h)
  generalize lenB ld = N1 at cL1 w1
  have g1 : ((N1 : Int) == 0) = false := by simp; omega
  have cL2 := fun wx (hk : Keep w wx) => rLen_any c cc lc wx hB.hca (by have := hB.hla; omega) (hB.hra.keep hk) hB.hma
  rw [(lenB_nought hB.hma).2 h2] at cL2
  go_enter Tryd.func59, Tryd.ntmps59
  go_wp2_with fail
  rw [← hW]
  clear hW
  refine (cL0 W kW).mono ?_
  rintro e v0 ⟨rfl, j0⟩
  have B1 := B1.keep j0
  have B2 := B2.keep j0
  have B3 := B3.keep j0
  have kW0 := kW.trans j0
  obtain ⟨x0, x1, x2⟩ := B1.cells
  obtain ⟨x3, x4, x5⟩ := B2.cells
  obtain ⟨z0, z1, z2⟩ := B3.cells
  have f0 := B3.free 0
  have f1 := B3.free 1
  have f2 := B3.free 2
  go_wp2_with fail
  clear x0 x1 x2 x3 x4 x5 z0 z1 z2 f0 f1 f2
  refine (cL1 v0 kW0).mono ?_
  rintro e v1 ⟨rfl, j1⟩
  have B1 := B1.keep j1
  have B2 := B2.keep j1
  have B3 := B3.keep j1
  have kW01 := kW0.trans j1
  obtain ⟨x0, x1, x2⟩ := B1.cells
  obtain ⟨x3, x4, x5⟩ := B2.cells
  obtain ⟨z0, z1, z2⟩ := B3.cells
  have f0 := B3.free 0
  have f1 := B3.free 1
  have f2 := B3.free 2
  go_wp2_with fail
  clear x0 x1 x2 x3 x4 x5 z0 z1 z2 f0 f1 f2
  refine (cL2 v1 kW01).mono ?_
  rintro e v2 ⟨rfl, j2⟩
  have B1 := B1.keep j2
  have B2 := B2.keep j2
  have B3 := B3.keep j2
  have kW012 := kW01.trans j2
  obtain ⟨x0, x1, x2⟩ := B1.cells
  obtain ⟨x3, x4, x5⟩ := B2.cells
  obtain ⟨z0, z1, z2⟩ := B3.cells
  have f0 := B3.free 0
  have f1 := B3.free 1
  have f2 := B3.free 2
  go_wp2_with fail
  refine bodyPost_ret (v := .tuple #[.agg #[.bool false, .slice none 0 0, .slice none 0 0], .int .i64 11]) (by simp [results, Tryd.results59, go_sem, World.cell?_setCell_other, World.cell?_setCell_same, z0, z1, z2]) rfl ⟨rfl, ?_⟩
  exact ((kW012.setCell (by show _ ≤ w.heap.size + 1 + 1; omega) _).setCell (by show _ ≤ w.heap.size + 1 + 1; omega) _).setCell (by show _ ≤ w.heap.size + 1 + 1; omega) _
set_option maxRecDepth 100000 in
set_option maxHeartbeats 1600000 in
theorem rBy_some (n1 n2 : Bool) (a b c d : Option Addr) (ca cb cc cd : Nat) (la lb lc ld : List Nat) (w : World) (hA : Arg2 w a ca la b cb lb) (hB : Arg2 w c cc lc d cd ld) (h0 : val lb ≠ 0) (h1 : val ld ≠ 0) (h2 : val lc ≠ 0) :
    Calls Tryd.prog 59 #[.agg #[.bool n1, .slice a la.length ca, .slice b lb.length cb], .agg #[.bool n2, .slice c lc.length cc, .slice d ld.length cd]] w fun e w' => RatF w w' e (n1 != n2) (val la * val ld) (val lb * val lc) := by
  obtain ⟨W, hW, B1, B2, B3, kW, hsz⟩ := lay3 w (.bool n1) (.slice a la.length ca) (.slice b lb.length cb) (.bool n2) (.slice c lc.length cc) (.slice d ld.length cd) (.bool false) (.slice none 0 0) (.slice none 0 0)
  have cL0 := fun wx (hk : Keep w wx) => rLen_any b cb lb wx hA.hcb (by have := hA.hlb; omega) (hA.hrb.keep hk) hA.hmb
  have w0 : lenB lb ≠ 0 := fun h => h0 ((lenB_nought hA.hmb).1 h)
  generalize lenB lb = N0 at cL0 w0
  have g0 : ((N0 : Int) == 0) = false := by simp; omega
  have cL1 := fun wx (hk : Keep w wx) => rLen_any d cd ld wx hB.hcb (by have := hB.hlb; omega) (hB.hrb.keep hk) hB.hmb
  have w1 : lenB ld ≠ 0 := fun h => h1 ((lenB_nought hB.hmb).1 h)
  generalize lenB ld = N1 at cL1 w1
  have g1 : ((N1 : Int) == 0) = false := by simp; omega
  have cL2 := fun wx (hk : Keep w wx) => rLen_any c cc lc wx hB.hca (by have := hB.hla; omega) (hB.hra.keep hk) hB.hma
  have w2 : lenB lc ≠ 0 := fun h => h2 ((lenB_nought hB.hma).1 h)
  generalize lenB lc = N2 at cL2 w2
  have g2 : ((N2 : Int) == 0) = false := by simp; omega
  have M1 := fun wx (hk : Keep w wx) => rMul_any a d ca cd la ld wx (by have := hA.hla; omega) (by have := hB.hlb; omega) (by have := hA.hla; have := hB.hlb; omega) (hA.hra.keep hk) (hB.hrb.keep hk) hA.hma hB.hmb
  have M2 := fun wx (hk : Keep w wx) => rMul_any b c cb cc lb lc wx (by have := hA.hlb; omega) (by have := hB.hla; omega) (by have := hA.hlb; have := hB.hla; omega) (hA.hrb.keep hk) (hB.hra.keep hk) hA.hmb hB.hma
  have q1 := hA.hla
  have q2 := hA.hlb
  have q3 := hB.hla
  have q4 := hB.hlb
  go_enter Tryd.func59, Tryd.ntmps59
  go_wp2_with fail
  rw [← hW]
  clear hW
  refine (cL0 W kW).mono ?_
  rintro e v0 ⟨rfl, j0⟩
  have B1 := B1.keep j0
  have B2 := B2.keep j0
  have B3 := B3.keep j0
  have kW0 := kW.trans j0
  obtain ⟨x0, x1, x2⟩ := B1.cells
  obtain ⟨x3, x4, x5⟩ := B2.cells
  obtain ⟨z0, z1, z2⟩ := B3.cells
  have f0 := B3.free 0
  have f1 := B3.free 1
  have f2 := B3.free 2
  go_wp2_with fail
  clear x0 x1 x2 x3 x4 x5 z0 z1 z2 f0 f1 f2
  refine (cL1 v0 kW0).mono ?_
  rintro e v1 ⟨rfl, j1⟩
  have B1 := B1.keep j1
  have B2 := B2.keep j1
  have B3 := B3.keep j1
  have kW01 := kW0.trans j1
  obtain ⟨x0, x1, x2⟩ := B1.cells
  obtain ⟨x3, x4, x5⟩ := B2.cells
  obtain ⟨z0, z1, z2⟩ := B3.cells
  have f0 := B3.free 0
  have f1 := B3.free 1
  have f2 := B3.free 2
  go_wp2_with fail
  clear x0 x1 x2 x3 x4 x5 z0 z1 z2 f0 f1 f2
  refine (cL2 v1 kW01).mono ?_
  rintro e v2 ⟨rfl, j2⟩
  have B1 := B1.keep j2
  have B2 := B2.keep j2
  have B3 := B3.keep j2
  have kW012 := kW01.trans j2
  obtain ⟨x0, x1, x2⟩ := B1.cells
  obtain ⟨x3, x4, x5⟩ := B2.cells
  obtain ⟨z0, z1, z2⟩ := B3.cells
  have f0 := B3.free 0
  have f1 := B3.free 1
  have f2 := B3.free 2
  go_wp2_with fail
  clear x0 x1 x2 x3 x4 x5 z0 z1 z2 f0 f1 f2
  obtain ⟨x0, x1, x2⟩ := B1.cells
  obtain ⟨x3, x4, x5⟩ := B2.cells
  have Bd : Box v2.drew (w.heap.size + 1 + 1) (.bool false) (.slice none 0 0) (.slice none 0 0) := B3
  have kd : Keep w v2.drew := kW012.drew
  have hgw : w.heap.size ≤ w.heap.size + 1 + 1 := by omega
  obtain ⟨g, hg⟩ : ∃ g, w.heap.size = g := ⟨_, rfl⟩
  rw [hg] at x0 x1 x2 x3 x4 x5 Bd
  rw [show w.heap.size + 1 + 1 = g + 1 + 1 by omega] at hgw
  rw [hg]
  clear hg
  have hn1 : ¬ (g = g + 1 + 1) := by omega
  have hn2 : ¬ (g + 1 + 1 = g) := by omega
  clear cL0 cL1 cL2 B1 B2
  go_region_held3 (fun w' => w'.cell? ⟨g, 0, none⟩ = some (Value.bool n1) ∧ w'.cell? ⟨g, 1, none⟩ = some (Value.slice a la.length ca) ∧ w'.cell? ⟨g, 2, none⟩ = some (Value.slice b lb.length cb) ∧ w'.cell? ⟨g + 1, 0, none⟩ = some (Value.bool n2) ∧ w'.cell? ⟨g + 1, 1, none⟩ = some (Value.slice c lc.length cc) ∧ w'.cell? ⟨g + 1, 2, none⟩ = some (Value.slice d ld.length cd)) (go_keep) (first
    | (go_at_call_of 36 (Value.slice a la.length ca); refine (M1 _ ?_).mono ?_; exact kd; rintro e wA ⟨vA, lA, rfl, oA, mA, pA, eA, kA⟩; obtain ⟨aA, cA, rfl, hcA, rA⟩ := oA.shape; have jA := mul_few hA.hma hB.hmb pA eA; have k1 := kd.trans kA; have BA := Bd.keep kA; have s0 := Keep.cell kA x0; have s1 := Keep.cell kA x1; have s2 := Keep.cell kA x2; have s3 := Keep.cell kA x3; have s4 := Keep.cell kA x4; have s5 := Keep.cell kA x5)
    | (go_at_call_of 36 (Value.slice b lb.length cb); refine (M2 _ ?_).mono ?_; exact k1; rintro e wB ⟨vB, lB, rfl, oB, mB, pB, eB, kB⟩; obtain ⟨aB, cB, rfl, hcB, rB⟩ := oB.shape; have jB := mul_few hA.hmb hB.hma pB eB; have k2 := k1.trans kB; have BB := BA.keep kB; have rA2 := rA.keep kB; have t0 := Keep.cell kB s0; have t1 := Keep.cell kB s1; have t2 := Keep.cell kB s2; have t3 := Keep.cell kB s3; have t4 := Keep.cell kB s4; have t5 := Keep.cell kB s5)
    | (go_at_call 51; refine (rOver_form _ aA aB cA cB lA lB wB hcA hcB ?_ ?_ rA2 rB mA mB).mono ?_; omega; omega; rintro e wC hC; rw [eA, eB] at hC; obtain ⟨an, cn, ln, ad, cm, lm, rfl, hfin, kC⟩ := hC.box k2 hgw BB; have BC := BB.keep kC; obtain ⟨z0, z1, z2⟩ := BC.cells; have f0 := BC.free 0; have f1 := BC.free 1; have f2 := BC.free 2; have u0 := Keep.cell kC t0; have u1 := Keep.cell kC t1; have u2 := Keep.cell kC t2; have u3 := Keep.cell kC t3; have u4 := Keep.cell kC t4; have u5 := Keep.cell kC t5))
  go_simp
  go_wp2_with fail
  refine bodyPost_ret (v := .tuple #[.agg #[.bool _, .slice an ln.length cn, .slice ad lm.length cm], .int .i64 (RE (val lb * val lc))]) (by simp [results, Tryd.results59, go_sem, World.cell?_setCell_other, World.cell?_setCell_same, z0, z1, z2]) rfl (hfin _ _ _)
theorem rBy_form (n1 n2 : Bool) (a b c d : Option Addr) (ca cb cc cd : Nat) (la lb lc ld : List Nat) (w : World) (hA : Arg2 w a ca la b cb lb) (hB : Arg2 w c cc lc d cd ld) :
    Calls Tryd.prog 59 #[.agg #[.bool n1, .slice a la.length ca, .slice b lb.length cb], .agg #[.bool n2, .slice c lc.length cc, .slice d ld.length cd]] w fun e w' => RatF w w' e (n1 != n2) (val la * val ld) (if val ld = 0 then 0 else val lb * val lc) := by
  by_cases h0 : val lb = 0
  · refine (rBy_none0 n1 n2 a b c d ca cb cc cd la lb lc ld w hA hB h0).mono ?_
    rintro e w' ⟨rfl, k⟩
    exact RatF.none (by rw [h0, Nat.zero_mul]; split <;> rfl) k
  · by_cases h1 : val ld = 0
    · refine (rBy_none1 n1 n2 a b c d ca cb cc cd la lb lc ld w hA hB h0 h1).mono ?_
      rintro e w' ⟨rfl, k⟩
      exact RatF.none (by rw [if_pos h1]) k
    · rw [if_neg h1]
      by_cases h2 : val lc = 0
      · refine (rBy_none2 n1 n2 a b c d ca cb cc cd la lb lc ld w hA hB h0 h1 h2).mono ?_
        rintro e w' ⟨rfl, k⟩
        exact RatF.none (by rw [h2, Nat.mul_zero]) k
      · exact rBy_some n1 n2 a b c d ca cb cc cd la lb lc ld w hA hB h0 h1 h2
end Go.Proofs.YtbjidpooociamaaDoor
namespace Go.Proofs.YtbjidpooociamaaDoor
open Go.RowKit Lb
set_option maxRecDepth 100000 in
set_option maxHeartbeats 800000 in
theorem crossed_any (n1 n2 : Bool) (a b c d : Option Addr) (ca cb cc cd : Nat) (la lb lc ld : List Nat) (w : World) (hA : Arg2 w a ca la b cb lb) (hB : Arg2 w c cc lc d cd ld) :
    Calls Tryd.prog 86 #[.agg #[.bool n1, .slice a la.length ca, .slice b lb.length cb], .agg #[.bool n2, .slice c lc.length cc, .slice d ld.length cd]] w fun e w' => ∃ vA vB, e = .returned (.tuple #[vA, vB]) ∧ NatR w.heap.size w' vA (val la * val ld) ∧ NatR w.heap.size w' vB (val lc * val lb) ∧ Keep w w' := by
  obtain ⟨W, hW, B1, B2, kW⟩ := lay2 w (.bool n1) (.slice a la.length ca) (.slice b lb.length cb) (.bool n2) (.slice c lc.length cc) (.slice d ld.length cd)
  have M1 := fun wx (hk : Keep w wx) => Mul_any a d ca cd la ld wx hA.hca hB.hcb (by have := hA.hla; omega) (by have := hB.hlb; omega) (hA.hra.keep hk) (hB.hrb.keep hk) hA.hma hB.hmb
  have M2 := fun wx (hk : Keep w wx) => Mul_any c b cc cb lc lb wx hB.hca hA.hcb (by have := hB.hla; omega) (by have := hA.hlb; omega) (hB.hra.keep hk) (hA.hrb.keep hk) hB.hma hA.hmb
  go_enter Tryd.func86, Tryd.ntmps86
  go_wp2_with fail
  rw [← hW]
  clear hW
  obtain ⟨x0, x1, x2⟩ := B1.cells
  obtain ⟨x3, x4, x5⟩ := B2.cells
  have kd : Keep w W.drew := kW.drew
  obtain ⟨g, hg⟩ : ∃ g, w.heap.size = g := ⟨_, rfl⟩
  have hgl : Hid (w.heap.size = g) := hg
  rw [hg] at x0 x1 x2 x3 x4 x5
  rw [hg]
  clear hg B1 B2
  go_region_held3 (fun w' => w'.cell? ⟨g, 1, none⟩ = some (Value.slice a la.length ca) ∧ w'.cell? ⟨g, 2, none⟩ = some (Value.slice b lb.length cb) ∧ w'.cell? ⟨g + 1, 1, none⟩ = some (Value.slice c lc.length cc) ∧ w'.cell? ⟨g + 1, 2, none⟩ = some (Value.slice d ld.length cd)) (go_keep) (first
    | (go_at_call_of 35 (Value.slice a la.length ca); refine (M1 _ ?_).mono ?_; exact kd; rintro e wA ⟨vA, rfl, nA, kA⟩; have nA' := nA.natR; obtain ⟨aA, cA, lA, rfl, -⟩ := nA.natR.shape; have k1 := kd.trans kA; have s1 := Keep.cell kA x1; have s2 := Keep.cell kA x2; have s4 := Keep.cell kA x4; have s5 := Keep.cell kA x5)
    | (go_at_call_of 35 (Value.slice c lc.length cc); refine (M2 _ ?_).mono ?_; exact k1; rintro e wB ⟨vB, rfl, nB, kB⟩; have nB' := nB.natR; obtain ⟨aB, cB, lB, rfl, -⟩ := nB.natR.shape; have k2 := k1.trans kB; have t1 := Keep.cell kB s1; have t2 := Keep.cell kB s2; have t4 := Keep.cell kB s4; have t5 := Keep.cell kB s5))
  go_simp
  go_wp2_with fail
  go_ret2
  exact ⟨_, _, rfl, (nA'.keep kB).mono kd.le, nB'.mono k1.le, k2⟩
end Go.Proofs.YtbjidpooociamaaDoor
