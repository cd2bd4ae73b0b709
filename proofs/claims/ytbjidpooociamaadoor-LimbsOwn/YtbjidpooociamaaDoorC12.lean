import Derived.Test.YtbjidpooociamaaDoorC11
set_option linter.unusedVariables false
set_option linter.unusedSimpArgs false
namespace Go.Proofs.YtbjidpooociamaaDoor
open Go.RowKit Lb
/-- A quotient's variable. -/
def Box (w : World) (g : Nat) (x y z : Value) : Prop := w.heap[g]? = some (.cells #[x, y, z] 47 (0, 0))
theorem Box.keep {w w' : World} {g : Nat} {x y z : Value} (h : Box w g x y z) (k : Keep w w') : Box w' g x y z := by
  unfold Box; rw [k.block g (Array.getElem?_eq_some_iff.1 h).1]; exact h
theorem Box.cells {w : World} {g : Nat} {x y z : Value} (h : Box w g x y z) : w.cell? ⟨g, 0, none⟩ = some x ∧ w.cell? ⟨g, 1, none⟩ = some y ∧ w.cell? ⟨g, 2, none⟩ = some z := by
  refine ⟨?_, ?_, ?_⟩ <;> rw [cell_of_row w g _ _ 47 (0, 0) h] <;> rfl
theorem Box.free {w : World} {g : Nat} {x y z : Value} (h : Box w g x y z) (j : Nat) : w.frozen? ⟨g, j, none⟩ = false := frozen_of_row w g j _ 47 h
theorem Box.new (w : World) (x y z : Value) : Box (w.alloc (.cells #[x, y, z] 47)) w.heap.size x y z := heap_alloc_new w _

theorem Res.mut {B g : Nat} {w w' : World} {v : Value} {l : List Nat} (h : Res B w v l) (k : Mut g w w') (hg : g < B) : Res B w' v l := by
  rcases h with h | ⟨g', r, e, hb, hr, h1, h2⟩
  · exact .inl h
  · exact .inr ⟨g', r, e, hb, hr.mut k (by omega), h1, h2⟩
theorem NatR.mut {B g : Nat} {w w' : World} {v : Value} {n : Nat} (h : NatR B w v n) (k : Mut g w w') (hg : g < B) : NatR B w' v n := by
  obtain ⟨l, h1, h2⟩ := h; exact ⟨l, h1.mut k hg, h2⟩
set_option maxRecDepth 100000 in
set_option maxHeartbeats 800000 in
theorem Over_zero (neg : Bool) (a b : Option Addr) (ca cb : Nat) (la lb : List Nat) (w : World) (hca : la.length ≤ ca) (hcb : lb.length ≤ cb) (hla : la.length ≤ 70368744177663) (hlb : lb.length ≤ 70368744177663) (hra : Rd w a la) (hrb : Rd w b lb)
    (hb0 : nl lb = 0) :
    Calls Tryd.prog 50 #[.bool neg, .slice a la.length ca, .slice b lb.length cb] w fun e w' => e = .returned (.tuple #[.agg #[.bool false, .slice none 0 0, .slice none 0 0], .int .i64 11]) ∧ Keep w w' := by
  have hk : Keep w (w.alloc (Obj.cells #[Value.bool false, Value.slice none 0 0, Value.slice none 0 0] 47)) := (Keep.refl w).alloc _
  have t1 := trim_any a ca la _ hca (by omega) (hra.keep hk)
  have t2 := trim_any b cb lb _ hcb (by omega) (hrb.keep hk)
  have h0 : ((nl lb : Int) == 0) = true := by simp; omega
  clear hb0
  go_enter Tryd.func50, Tryd.ntmps50
  go_wp2_with fail
  refine t1.mono ?_
  rintro e w' ⟨rfl, rfl⟩
  go_wp2_with fail
  refine t2.mono ?_
  rintro e w' ⟨rfl, rfl⟩
  go_wp2
  exact bodyPost_ret (v := .tuple #[.agg #[.bool false, .slice none 0 0, .slice none 0 0], .int .i64 11]) (by simp [results, Tryd.results50, go_sem]) rfl ⟨rfl, hk⟩

set_option maxRecDepth 100000 in
set_option maxHeartbeats 800000 in
theorem Over_any (K : Nat) (hD : DivideSaid K) (hG : DivisorSaid K) (neg : Bool) (a b : Option Addr) (ca cb : Nat) (la lb : List Nat) (w : World) (hca : la.length ≤ ca) (hcb : lb.length ≤ cb) (hla : la.length ≤ 70368744177663) (hlb : lb.length ≤ 70368744177663) (hra : Rd w a la) (hrb : Rd w b lb)
    (hma : Lim la) (hmb : Lim lb) (hb0 : nl lb ≠ 0) (ha0 : nl la ≠ 0) (hK : nl lb ≤ K) :
    Calls Tryd.prog 50 #[.bool neg, .slice a la.length ca, .slice b lb.length cb] w fun e w' => ∃ vn vd, e = .returned (.tuple #[.agg #[.bool neg, vn, vd], .int .i64 0]) ∧ NatR w.heap.size w' vn (val la / Nat.gcd (val la) (val lb)) ∧ NatR w.heap.size w' vd (val lb / Nat.gcd (val la) (val lb)) ∧ Keep w w' := by
  have hk : Keep w (w.alloc (Obj.cells #[Value.bool false, Value.slice none 0 0, Value.slice none 0 0] 47)) := (Keep.refl w).alloc _
  have hbox := Box.new w (Value.bool false) (Value.slice none 0 0) (Value.slice none 0 0)
  have t1 := trim_any a ca la _ hca (by omega) (hra.keep hk)
  have t2 := trim_any b cb lb _ hcb (by omega) (hrb.keep hk)
  have h0 : ((nl lb : Int) == 0) = false := by simp; omega
  have h0' : ((nl la : Int) == 0) = false := by simp; omega
  have l1 := nl_le la
  have l2 := nl_le lb
  have e1 : (la.take (nl la)).length = nl la := by simp; omega
  have e2 : (lb.take (nl lb)).length = nl lb := by simp; omega
  have a0 : la.take (nl la) ≠ [] := by intro h; rw [h] at e1; simp at e1; omega
  have b0 : lb.take (nl lb) ≠ [] := by intro h; rw [h] at e2; simp at e2; omega
  have va := val_take_nl la
  have vb := val_take_nl lb
  have na := Nrm_take la
  have nb := Nrm_take lb
  have ma := Lim_take hma (nl la)
  have mb := Lim_take hmb (nl lb)
  have ra := hra.take (nl la)
  have rb := hrb.take (nl lb)
  have vb0 : 0 < val lb := by
    rw [← vb]
    have h1 := val_ge nb b0
    have h2 : 0 < 4294967296 ^ ((lb.take (nl lb)).length - 1) := Nat.pos_of_ne_zero (by simp)
    omega
  generalize la.take (nl la) = x at *
  generalize lb.take (nl lb) = y at *
  go_enter Tryd.func50, Tryd.ntmps50
  go_wp2_with fail
  refine t1.mono ?_
  rintro e w' ⟨rfl, rfl⟩
  go_wp2_with fail
  refine t2.mono ?_
  rintro e w' ⟨rfl, rfl⟩
  go_wp2_with fail
  clear t1 t2
  generalize w.alloc _ = w1 at hk hbox ⊢
  have g1 := hG a b ca cb x y w1 (by omega) (by omega) (by omega) (ra.keep hk) (rb.keep hk) ma mb na nb a0 b0
  rw [e1, e2, va, vb] at g1
  refine g1.mono ?_
  rintro e w2 ⟨v, rfl, hg, hk2⟩
  obtain ⟨ag, cg, lg, rfl, hcg, hrg, hmg, ng, hvg, -⟩ := hg.shape
  have hg0 : 0 < Nat.gcd (val la) (val lb) := Nat.gcd_pos_of_pos_right _ vb0
  have lg0 : lg ≠ [] := by intro h; rw [h] at hvg; simp [val] at hvg; omega
  have lgl : lg.length ≤ y.length := by
    rcases Nat.lt_or_ge y.length lg.length with h | h
    · have h1 := len_lt_val mb ng h
      have h2 := Nat.gcd_le_right (val la) vb0
      omega
    · exact h
  have hk02 := hk.trans hk2
  have d1 := hD a ag ca cg x lg w2 (by omega) (by omega) (ra.keep hk02) hrg ma hmg na ng lg0
  rw [e1, va, hvg] at d1
  clear g1 hg
  go_wp2_with fail
  refine d1.mono ?_
  rintro e w3 ⟨vq, vr, rfl, hq, hr3, hk3⟩
  obtain ⟨aq, cq, lq, rfl, -⟩ := hq.shape
  obtain ⟨ar3, cr3, lr3, rfl, -⟩ := hr3.shape
  have hk03 := hk02.trans hk3
  have d2 := hD b ag cb cg y lg w3 (by omega) (by omega) (rb.keep hk03) (hrg.keep hk3) mb hmg nb ng lg0
  rw [e2, vb, hvg] at d2
  clear d1
  go_wp2_with fail
  refine d2.mono ?_
  rintro e w4 ⟨vq2, vr2, rfl, hq2, hr4, hk4⟩
  obtain ⟨aq2, cq2, lq2, rfl, -⟩ := hq2.shape
  obtain ⟨ar4, cr4, lr4, rfl, -⟩ := hr4.shape
  have hk04 := hk03.trans hk4
  have hbox4 := ((hbox.keep hk2).keep hk3).keep hk4
  obtain ⟨c0, c1, c2⟩ := hbox4.cells
  have f0 := hbox4.free 0
  have f1 := hbox4.free 1
  have f2 := hbox4.free 2
  clear d2
  have hsz : w.heap.size < w4.heap.size := (Array.getElem?_eq_some_iff.1 hbox4).1
  go_wp2
  have hs1 : w.heap.size < w1.heap.size := (Array.getElem?_eq_some_iff.1 hbox).1
  have hs2 := hk2.le
  have hs3 := hk3.le
  refine bodyPost_ret (v := .tuple #[.agg #[.bool neg, .slice aq lq.length cq, .slice aq2 lq2.length cq2], .int .i64 0]) (by simp [results, Tryd.results50, go_sem, World.cell?_setCell_other, World.cell?_setCell_same, c0, c1, c2]) rfl ⟨_, _, rfl, ?_, ?_, ?_⟩
  · exact NatR.mono ((((hq.keep hk4).mut ((Mut.refl _ _).setCell _ _) (by omega)).mut ((Mut.refl _ _).setCell _ _) (by omega)).mut ((Mut.refl _ _).setCell _ _) (by omega)) (by omega)
  · exact NatR.mono (((hq2.mut ((Mut.refl _ _).setCell _ _) (by omega)).mut ((Mut.refl _ _).setCell _ _) (by omega)).mut ((Mut.refl _ _).setCell _ _) (by omega)) (by omega)
  · exact ((hk04.setCell (Nat.le_refl _) _).setCell (Nat.le_refl _) _).setCell (Nat.le_refl _) _
end Go.Proofs.YtbjidpooociamaaDoor
