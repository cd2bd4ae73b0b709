import Derived.Test.YtpdjpjkieafnbaaGreatDoorH5
import Derived.Test.YtpdjpjkieafnbaaGreatDoorLK1
import Derived.WalkKit
import Derived.WalkSpells
import Derived.WalkLawsBesides
import Derived.Laws.CopyOwn
import Derived.Deep.Draws
import Derived.Deep.QuietTactic
import Derived.BigQuiet
import Derived.Laws.MathBits
import Derived.Laws.BytesArg
import Derived.Lib.OthersKept
import Derived.Deep.RegionWith
import Derived.WalkMore
import Derived.Deep.LoopGhost
import Derived.Deep.RegionHeld3
import Derived.Test.YtpdjpjkieafnbaaGreatDoorLC18
import Derived.Maps.AppendAt
set_option linter.unusedVariables false
set_option linter.unusedSimpArgs false
namespace Go.Proofs.YtpdjpjkieafnbaaGreatDoor.Li
open Go.RowKit Lb
/-- A natural in a block of a run of blocks. -/
def NatQ (B C : Nat) (w : World) (v : Value) (n : Nat) : Prop := ∃ l, ((v = .slice none 0 0 ∧ l = []) ∨ ∃ g r, v = .slice (some ⟨g, 0, none⟩) l.length r.length ∧ B ≤ g ∧ g < C ∧ Row w g r ∧ l.length ≤ r.length ∧ r.take l.length = l) ∧ Lim l ∧ Nrm l ∧ val l = n
theorem NatQ.nil (B C : Nat) (w : World) : NatQ B C w (.slice none 0 0) 0 := ⟨[], .inl ⟨rfl, rfl⟩, by intro x hx; simp at hx, by simp [Nrm], rfl⟩
set_option maxRecDepth 100000 in
set_option maxHeartbeats 800000 in
theorem Over_full_own (neg : Bool) (a b : Option Addr) (ca cb : Nat) (la lb : List Nat) (w : World) (hca : la.length ≤ ca) (hcb : lb.length ≤ cb) (hla : la.length ≤ 70368744177663) (hlb : lb.length ≤ 70368744177663) (hra : Rd w a la) (hrb : Rd w b lb)
    (hma : Lim la) (hmb : Lim lb) (hb0 : nl lb ≠ 0) (ha0 : nl la ≠ 0) :
    Calls Tryz.prog 40 #[.bool neg, .slice a la.length ca, .slice b lb.length cb] w fun e w' => ∃ M vn vd, e = .returned (.tuple #[.agg #[.bool neg, vn, vd], .int .i64 0]) ∧ w.heap.size ≤ M ∧ M ≤ w'.heap.size ∧ NatQ w.heap.size M w' vn (val la / Nat.gcd (val la) (val lb)) ∧ NatQ M w'.heap.size w' vd (val lb / Nat.gcd (val la) (val lb)) ∧ Keep w w' := by
  have hk : Keep w (w.alloc (Obj.cells #[Value.bool false, Value.slice none 0 0, Value.slice none 0 0] 54)) := (Keep.refl w).alloc _
  have hbox := Box.new w (Value.bool false) (Value.slice none 0 0) (Value.slice none 0 0)
  have t1 := trim_any a ca la _ hca (by omega) (hra.keep hk)
  have t2 := trim_any b cb lb _ hcb (by omega) (hrb.keep hk)
  have h0 : ((nl lb : Int) == 0) = false := by simp; omega
  have h0' : ((nl la : Int) == 0) = false := by simp; omega
  have l1 := nl_le la
  have l2 := nl_le lb
  have e1 : (la.take (nl la)).length = nl la := by simp; omega
  have e2 : (lb.take (nl lb)).length = nl lb := by simp; omega
  have a0 : la.take (nl la) ≠ [] := by intro h; rw [h] at e1; simp at e1; omega
  have b0 : lb.take (nl lb) ≠ [] := by intro h; rw [h] at e2; simp at e2; omega
  have va := val_take_nl la
  have vb := val_take_nl lb
  have na := Nrm_take la
  have nb := Nrm_take lb
  have ma := Lim_take hma (nl la)
  have mb := Lim_take hmb (nl lb)
  have ra := hra.take (nl la)
  have rb := hrb.take (nl lb)
  have vb0 : 0 < val lb := by
    rw [← vb]
    have h1 := val_ge nb b0
    have h2 : 0 < 4294967296 ^ ((lb.take (nl lb)).length - 1) := Nat.pos_of_ne_zero (by simp)
    omega
  generalize la.take (nl la) = x at *
  generalize lb.take (nl lb) = y at *
  go_enter Tryz.func40, Tryz.ntmps40
  go_wp2_with fail
  refine t1.mono ?_
  rintro e w' ⟨rfl, rfl⟩
  go_wp2_with fail
  refine t2.mono ?_
  rintro e w' ⟨rfl, rfl⟩
  go_wp2_with fail
  clear t1 t2
  generalize w.alloc _ = w1 at hk hbox ⊢
  have g1 := divisor_all a b ca cb x y w1 (by omega) (by omega) (by omega) (by omega) (ra.keep hk) (rb.keep hk) ma mb na nb
  rw [e1, e2, va, vb] at g1
  refine g1.mono ?_
  rintro e w2 ⟨v, rfl, hg, hk2⟩
  obtain ⟨ag, cg, lg, rfl, hcg, hrg, hmg, ng, hvg, -⟩ := hg.shape
  have hg0 : 0 < Nat.gcd (val la) (val lb) := Nat.gcd_pos_of_pos_right _ vb0
  have lg0 : lg ≠ [] := by intro h; rw [h] at hvg; simp [val] at hvg; omega
  have lgl : lg.length ≤ y.length := by
    rcases Nat.lt_or_ge y.length lg.length with h | h
    · have h1 := len_lt_val mb ng h
      have h2 := Nat.gcd_le_right (val la) vb0
      omega
    · exact h
  have hk02 := hk.trans hk2
  have d1 := divide_all a ag ca cg x lg w2 (by omega) (by omega) (ra.keep hk02) hrg ma hmg na ng lg0
  rw [e1, va, hvg] at d1
  clear g1 hg
  go_wp2_with fail
  refine d1.mono ?_
  rintro e w3 ⟨vq, vr, rfl, hq, hr3, hk3⟩
  obtain ⟨aq, cq, lq, rfl, -⟩ := hq.shape
  obtain ⟨ar3, cr3, lr3, rfl, -⟩ := hr3.shape
  have hk03 := hk02.trans hk3
  have d2 := divide_all b ag cb cg y lg w3 (by omega) (by omega) (rb.keep hk03) (hrg.keep hk3) mb hmg nb ng lg0
  rw [e2, vb, hvg] at d2
  clear d1
  go_wp2_with fail
  refine d2.mono ?_
  rintro e w4 ⟨vq2, vr2, rfl, hq2, hr4, hk4⟩
  obtain ⟨aq2, cq2, lq2, rfl, -⟩ := hq2.shape
  obtain ⟨ar4, cr4, lr4, rfl, -⟩ := hr4.shape
  have hk04 := hk03.trans hk4
  have hbox4 := ((hbox.keep hk2).keep hk3).keep hk4
  obtain ⟨c0, c1, c2⟩ := hbox4.cells
  have f0 := hbox4.free 0
  have f1 := hbox4.free 1
  have f2 := hbox4.free 2
  clear d2
  have hsz : w.heap.size < w4.heap.size := (Array.getElem?_eq_some_iff.1 hbox4).1
  go_wp2
  have hs1 : w.heap.size < w1.heap.size := (Array.getElem?_eq_some_iff.1 hbox).1
  have hs2 := hk2.le
  have hs3 := hk3.le
  refine bodyPost_ret (v := .tuple #[.agg #[.bool neg, .slice aq lq.length cq, .slice aq2 lq2.length cq2], .int .i64 0]) (by simp [results, Tryz.results40, go_sem, World.cell?_setCell_other, World.cell?_setCell_same, c0, c1, c2]) rfl ⟨w3.heap.size, _, _, rfl, by have := hk.le; omega, by have := hk4.le; simpa using this, ?_, ?_, ?_⟩
  · obtain ⟨l, h1, h2⟩ := hq
    refine ⟨l, ?_, h2⟩
    rcases h1 with h | ⟨g, r, e, hb, hr, q1, q2⟩
    · exact .inl h
    · have hlt := hr.lt
      exact .inr ⟨g, r, e, by omega, hlt, (((hr.keep hk4).mut ((Mut.refl _ _).setCell _ _) (by omega)).mut ((Mut.refl _ _).setCell _ _) (by omega)).mut ((Mut.refl _ _).setCell _ _) (by omega), q1, q2⟩
  · obtain ⟨l, h1, h2⟩ := hq2
    refine ⟨l, ?_, h2⟩
    rcases h1 with h | ⟨g, r, e, hb, hr, q1, q2⟩
    · exact .inl h
    · have hlt := hr.lt
      exact .inr ⟨g, r, e, hb, by simpa using hlt, ((hr.mut ((Mut.refl _ _).setCell _ _) (by omega)).mut ((Mut.refl _ _).setCell _ _) (by omega)).mut ((Mut.refl _ _).setCell _ _) (by omega), q1, q2⟩
  · exact ((hk04.setCell (Nat.le_refl _) _).setCell (Nat.le_refl _) _).setCell (Nat.le_refl _) _
set_option maxRecDepth 100000 in
set_option maxHeartbeats 800000 in
theorem Over_nought_own (neg : Bool) (a b : Option Addr) (ca cb : Nat) (la lb : List Nat) (w : World) (hca : la.length ≤ ca) (hcb : lb.length ≤ cb) (hla : la.length ≤ 70368744177663) (hlb : lb.length ≤ 70368744177663) (hra : Rd w a la) (hrb : Rd w b lb)
    (hb0 : nl lb ≠ 0) (ha0 : nl la = 0) :
    Calls Tryz.prog 40 #[.bool neg, .slice a la.length ca, .slice b lb.length cb] w fun e w' => ∃ M vn vd, e = .returned (.tuple #[.agg #[.bool false, vn, vd], .int .i64 0]) ∧ w.heap.size ≤ M ∧ M ≤ w'.heap.size ∧ NatQ w.heap.size M w' vn 0 ∧ NatQ M w'.heap.size w' vd 1 ∧ Keep w w' := by
  have hk : Keep w (w.alloc (Obj.cells #[Value.bool false, Value.slice none 0 0, Value.slice none 0 0] 54)) := (Keep.refl w).alloc _
  have hbox := Box.new w (Value.bool false) (Value.slice none 0 0) (Value.slice none 0 0)
  have t1 := trim_any a ca la _ hca (by omega) (hra.keep hk)
  have t2 := trim_any b cb lb _ hcb (by omega) (hrb.keep hk)
  have h0 : ((nl lb : Int) == 0) = false := by simp; omega
  have h0' : ((nl la : Int) == 0) = true := by simp; omega
  clear hb0 ha0
  go_enter Tryz.func40, Tryz.ntmps40
  go_wp2_with fail
  refine t1.mono ?_
  rintro e w' ⟨rfl, rfl⟩
  go_wp2_with fail
  refine t2.mono ?_
  rintro e w' ⟨rfl, rfl⟩
  go_wp2_with fail
  refine bodyPost_ret (v := .tuple #[.agg #[.bool false, .slice none 0 0, .slice (some ⟨w.heap.size + 1, 0, none⟩) 1 1], .int .i64 0]) (by simp [results, Tryz.results40, go_sem]) rfl ⟨w.heap.size, .slice none 0 0, .slice (some ⟨w.heap.size + 1, 0, none⟩) 1 1, rfl, Nat.le_refl _, by simp; omega, NatQ.nil _ _ _, ?_, ((Keep.refl w).alloc _).alloc _⟩
  have h := heap_alloc_new (w.alloc (Obj.cells #[Value.bool false, Value.slice none 0 0, Value.slice (some ⟨w.heap.size + 1, 0, none⟩) 1 1] 54)) (Obj.cells #[Value.int IntKind.u32 1] 40)
  have hz : (w.alloc (Obj.cells #[Value.bool false, Value.slice none 0 0, Value.slice (some ⟨w.heap.size + 1, 0, none⟩) 1 1] 54)).heap.size = w.heap.size + 1 := by simp
  rw [hz] at h
  exact ⟨[1], .inr ⟨w.heap.size + 1, [1], rfl, by omega, by simp, h, by simp, rfl⟩, by intro x hx; simp at hx; omega, by simp [Nrm], rfl⟩
end Go.Proofs.YtpdjpjkieafnbaaGreatDoor.Li
set_option linter.unusedVariables false
set_option linter.unusedSimpArgs false
namespace Go.Proofs.YtpdjpjkieafnbaaGreatDoor.Li
open Go.RowKit Lb
/-- A number as a quotient: is it none, its sign, its numerator, its denominator. -/
def qB (b : Nat) : Bool := decide (pKind b = 3 ∨ pKind b = 4)
def qX (b : Nat) : Nat := pM b * 2 ^ (pE b).toNat
def qY (b : Nat) : Nat := 1 * 2 ^ (-(pE b)).toNat
def qZ (b : Nat) : Int := if qB b then 60 else 0
def qS (b : Nat) : Bool := !(qB b) && !(decide (qX b = 0)) && pNeg b
def qN (b : Nat) : Nat := if qB b then 0 else qX b / Nat.gcd (qX b) (qY b)
def qD (b : Nat) : Nat := if qB b then 0 else qY b / Nat.gcd (qX b) (qY b)
theorem NatQ.lt {B C : Nat} {w : World} {v : Value} {n : Nat} (h : NatQ B C w v n) (hC : C ≤ w.heap.size) : True := trivial
theorem NatQ.shape {B C : Nat} {w : World} {v : Value} {n : Nat} (h : NatQ B C w v n) : ∃ a l c, v = .slice a l c := by
  obtain ⟨l, (h | ⟨g, r, e, _⟩), _⟩ := h
  · exact ⟨none, 0, 0, h.1⟩
  · exact ⟨_, _, _, e⟩
/-- Blocks of a run stay as they were. -/
theorem NatQ.same {B C : Nat} {w w' : World} {v : Value} {n : Nat} (h : NatQ B C w v n) (e : ∀ i, B ≤ i → i < C → w'.heap[i]? = w.heap[i]?) : NatQ B C w' v n := by
  obtain ⟨l, h1, h2⟩ := h
  refine ⟨l, ?_, h2⟩
  rcases h1 with h | ⟨g, r, e1, hb, hc, hr, q⟩
  · exact .inl h
  · exact .inr ⟨g, r, e1, hb, hc, (e g hb hc).trans hr, q⟩
theorem NatQ.mono {B C B' C' : Nat} {w : World} {v : Value} {n : Nat} (h : NatQ B C w v n) (hB : B' ≤ B) (hC : C ≤ C') : NatQ B' C' w v n := by
  obtain ⟨l, h1, h2⟩ := h
  refine ⟨l, ?_, h2⟩
  rcases h1 with h | ⟨g, r, e1, hb, hc, q⟩
  · exact .inl h
  · exact .inr ⟨g, r, e1, by omega, by omega, q⟩
theorem pE_in (b : Nat) : -1074 ≤ pE b ∧ pE b ≤ 971 := by
  unfold pE
  have hf : pField b < 2048 := Nat.mod_lt _ (by omega)
  (repeat' split) <;> omega
theorem pM_lt (b : Nat) : pM b < 9007199254740992 := by
  unfold pM
  have hk : pKept b < 4503599627370496 := Nat.mod_lt _ (by omega)
  split <;> omega
/-- Over, of any two naturals, in memory of its own. -/
theorem Over_own (neg : Bool) (v1 v2 : Value) (N D K : Nat) (w : World) (h1 : Lv w v1 N K) (h2 : Lv w v2 D K) (hK : K ≤ 70368744177663) (hD : 0 < D) :
    Calls Tryz.prog 40 #[.bool neg, v1, v2] w fun e w' => ∃ M vn vd, e = .returned (.tuple #[.agg #[.bool (!(decide (N = 0)) && neg), vn, vd], .int .i64 0]) ∧ w.heap.size ≤ M ∧ M ≤ w'.heap.size ∧ NatQ w.heap.size M w' vn (N / Nat.gcd N D) ∧ NatQ M w'.heap.size w' vd (D / Nat.gcd N D) ∧ Keep w w' := by
  obtain ⟨a, c, l, rfl, p1, p2, p3, p4, p5⟩ := h1
  obtain ⟨b, d, r, rfl, q1, q2, q3, q4, q5⟩ := h2
  have hr : nl r ≠ 0 := fun h => by have := nl_val.1 h; omega
  by_cases hN : N = 0
  · have hl : nl l = 0 := nl_val.2 (by omega)
    refine (Over_nought_own neg a b c d l r w p1 q1 (by omega) (by omega) p3 q3 hr hl).mono ?_
    rintro e w' ⟨M, vn, vd, rfl, k1, k2, k3, k4, k5⟩
    refine ⟨M, vn, vd, by rw [decide_eq_true hN]; rfl, k1, k2, ?_, ?_, k5⟩
    · rw [hN, Nat.zero_div]; exact k3
    · rw [hN, Nat.gcd_zero_left, Nat.div_self hD]; exact k4
  · have hl : nl l ≠ 0 := fun h => by have := nl_val.1 h; omega
    refine (Over_full_own neg a b c d l r w p1 q1 (by omega) (by omega) p3 q3 p4 q4 hr hl).mono ?_
    rintro e w' ⟨M, vn, vd, rfl, k1, k2, k3, k4, k5⟩
    rw [p5, q5] at k3 k4
    exact ⟨M, vn, vd, by rw [decide_eq_false hN]; rfl, k1, k2, k3, k4, k5⟩
theorem results_rat {fn : Func} {t u : Tmp} (h : fn.results = #[.cell t 54, .tmp u]) (tmps : Array Value) (w : World) (g : Nat) (x y z : Value) (hp : tmps.getD t undef = .pointer (some ⟨g, 0, none⟩)) (hh : Box w g x y z) :
    (results fn tmps).run Tryz.prog w = .ok (.tuple #[.agg #[x, y, z], tmps.getD u undef]) w := by
  obtain ⟨c0, c1, c2⟩ := hh.cells
  have hp' : (tmps[t]?).getD undef = .pointer (some ⟨g, 0, none⟩) := by simpa using hp
  simp [results, h, hp, hp', go_sem, c0, c1, c2]
set_option maxRecDepth 100000 in
set_option maxHeartbeats 1000000 in
theorem Quotient_own (b : Nat) (hb : b < 18446744073709551616) (w : World) :
    Calls Tryz.prog 32 #[.float .f64 b] w fun e w' => ∃ M vn vd, e = .returned (.tuple #[.agg #[.bool (qS b), vn, vd], .int .i64 (qZ b)]) ∧ w.heap.size ≤ M ∧ M ≤ w'.heap.size ∧ NatQ w.heap.size M w' vn (qN b) ∧ NatQ M w'.heap.size w' vd (qD b) ∧ Keep w w' := by
  have hP := fun wx => Parts_any b hb wx
  have hk5 : pKind b ≤ 4 := by unfold pKind; (repeat' split) <;> omega
  obtain ⟨w0, hw0⟩ : ∃ w0, w.alloc (.cells #[.bool false, .slice none 0 0, .slice none 0 0] 54) = w0 := ⟨_, rfl⟩
  have B0 : Hid (Box w0 w.heap.size (.bool false) (.slice none 0 0) (.slice none 0 0)) := by unfold Hid; rw [← hw0]; exact Box.new w _ _ _
  have K0 : Hid (Keep w w0) := by unfold Hid; rw [← hw0]; exact (Keep.refl w).alloc _
  have Z0 : Hid (w0.heap.size = w.heap.size + 1) := by unfold Hid; rw [← hw0]; simp
  by_cases hq : qB b = true
  · have e1 : qZ b = 60 := by unfold qZ; rw [hq]; rfl
    have e2 : qS b = false := by unfold qS; rw [hq]; rfl
    have e3 : qN b = 0 := by unfold qN; rw [hq]; rfl
    have e4 : qD b = 0 := by unfold qD; rw [hq]; rfl
    rw [e1, e2, e3, e4]
    have hkk := of_decide_eq_true hq
    rcases hkk with h3 | h3
    all_goals
      rw [h3] at hP
      generalize pM b = m at hP
      generalize pE b = ee at hP
      generalize pNeg b = ng at hP
      clear hk5 h3 hq e1 e2 e3 e4
      go_enter Tryz.func32, Tryz.ntmps32
      go_wp2_with fail
      refine (hP _).mono ?_
      rintro e w2 ⟨rfl, k2⟩
      have B2 := B0.out.keep k2
      obtain ⟨c0, c1, c2⟩ := B2.cells
      have f0 := B2.free 0
      have f1 := B2.free 1
      have f2 := B2.free 2
      have HB2 : Hid (Box w2 w.heap.size (.bool false) (.slice none 0 0) (.slice none 0 0)) := B2
      clear B2
      have K2 : Hid (Keep w w2) := K0.out.trans k2
      go_wp2_with fail
      have kk := ((K2.out.setCell (p := ⟨w.heap.size, 0, none⟩) (Nat.le_refl _) (.bool false)).setCell (p := ⟨w.heap.size, 1, none⟩) (Nat.le_refl _) (.slice none 0 0)).setCell (p := ⟨w.heap.size, 2, none⟩) (Nat.le_refl _) (.slice none 0 0)
      exact bodyPost_ret (results_rat rfl _ _ w.heap.size _ _ _ rfl (HB2.out.set _ _ _)) rfl ⟨w.heap.size, _, _, rfl, Nat.le_refl _, kk.le, NatQ.nil _ _ _, NatQ.nil _ _ _, kk⟩
  · have hq' : qB b = false := by simpa using hq
    have e1 : qZ b = 0 := by unfold qZ; rw [hq']; rfl
    have e2 : qS b = (!(decide (qX b = 0)) && pNeg b) := by unfold qS; rw [hq']; rfl
    have e3 : qN b = qX b / Nat.gcd (qX b) (qY b) := by unfold qN; rw [hq']; rfl
    have e4 : qD b = qY b / Nat.gcd (qX b) (qY b) := by unfold qD; rw [hq']; rfl
    rw [e1, e2, e3, e4]
    have hkk : ¬ (pKind b = 3 ∨ pKind b = 4) := of_decide_eq_false hq'
    have y3 : ((pKind b : Int) == 3) = false := by rw [beq_eq_false_iff_ne]; omega
    have y4 : ((pKind b : Int) == 4) = false := by rw [beq_eq_false_iff_ne]; omega
    have hm := pM_lt b
    have he := pE_in b
    have hF := fun wx => From_lv (pM b) wx (by omega)
    have hF1 := fun wx => From_lv 1 wx (by omega)
    have hS := fun v1 v2 wx h1 h2 => scaled_lv v1 v2 (pM b) 1 2 (pE b) wx h1 h2 (by omega) (by omega)
    rw [show pM b * 2 ^ (pE b).toNat = qX b from rfl, show 1 * 2 ^ (-(pE b)).toNat = qY b from rfl] at hS
    have hY0 : 0 < qY b := by unfold qY; rw [Nat.one_mul]; exact Nat.two_pow_pos _
    have hO := fun v1 v2 wx h1 h2 => Over_own (pNeg b) v1 v2 (qX b) (qY b) 102 wx h1 h2 (by omega) hY0
    clear e1 e2 e3 e4 hq hq' hkk hk5 hm he hY0
    generalize qX b = X at *
    generalize qY b = Y at *
    generalize pM b = m at *
    generalize pE b = ee at *
    generalize pNeg b = ng at *
    generalize pKind b = kd at *
    generalize hA : X / Nat.gcd X Y = A at *
    generalize hB : Y / Nat.gcd X Y = B at *
    clear hA hB
    generalize (!(decide (X = 0)) && ng) = sgn at *
    go_enter Tryz.func32, Tryz.ntmps32
    go_wp2_with fail
    refine (hP _).mono ?_
    rintro e w2 ⟨rfl, k2⟩
    go_wp2_with fail
    refine (hF _).mono ?_
    rintro e w3 ⟨va, rfl, hva, k3⟩
    go_wp2_with fail
    refine (hF1 _).mono ?_
    rintro e w4 ⟨vb, rfl, hvb, k4⟩
    go_wp2_with fail
    refine (hS va vb _ (hva.keep k4) hvb).mono ?_
    rintro e w5 ⟨u1, u2, rfl, hu1, hu2, k5⟩
    go_wp2_with fail
    refine (hO u1 u2 _ hu1 hu2).mono ?_
    rintro e w6 ⟨M, vn, vd, rfl, m1, m2, hvn, hvd, k6⟩
    obtain ⟨an, ln, cn, rfl⟩ := hvn.shape
    obtain ⟨ad, ld, cd, rfl⟩ := hvd.shape
    have kk : Keep w0 w6 := (((k2.trans k3).trans k4).trans k5).trans k6
    have B6 := B0.out.keep kk
    obtain ⟨c0, c1, c2⟩ := B6.cells
    have f0 := B6.free 0
    have f1 := B6.free 1
    have f2 := B6.free 2
    have HB6 : Hid (Box w6 w.heap.size (.bool false) (.slice none 0 0) (.slice none 0 0)) := B6
    have K6 : Hid (Keep w w6) := K0.out.trans kk
    have hs5 : Hid (w.heap.size < w5.heap.size) := by
      have h1 := ((((k2.trans k3).trans k4).trans k5)).le
      have h2 := Z0.out
      unfold Hid
      omega
    have HN : Hid (NatQ w5.heap.size M w6 (.slice an ln cn) A) := hvn
    have HD : Hid (NatQ M w6.heap.size w6 (.slice ad ld cd) B) := hvd
    have HM : Hid (w5.heap.size ≤ M ∧ M ≤ w6.heap.size) := ⟨m1, m2⟩
    clear B6 kk k2 k3 k4 k5 k6 hvn hvd m1 m2 hva hvb hu1 hu2
    go_wp2_with fail
    have kk := ((K6.out.setCell (p := ⟨w.heap.size, 0, none⟩) (Nat.le_refl _) (.bool sgn)).setCell (p := ⟨w.heap.size, 1, none⟩) (Nat.le_refl _) (.slice an ln cn)).setCell (p := ⟨w.heap.size, 2, none⟩) (Nat.le_refl _) (.slice ad ld cd)
    have hsame : ∀ i, w5.heap.size ≤ i → (((w6.setCell ⟨w.heap.size, 0, none⟩ (.bool sgn)).setCell ⟨w.heap.size, 1, none⟩ (.slice an ln cn)).setCell ⟨w.heap.size, 2, none⟩ (.slice ad ld cd)).heap[i]? = w6.heap[i]? := by
      intro i hi
      have := hs5.out
      rw [heap_setCell_other _ _ i _ (by show i ≠ w.heap.size; omega), heap_setCell_other _ _ i _ (by show i ≠ w.heap.size; omega), heap_setCell_other _ _ i _ (by show i ≠ w.heap.size; omega)]
    have hM := HM.out
    have h5 := hs5.out
    refine bodyPost_ret (results_rat rfl _ _ w.heap.size _ _ _ rfl (HB6.out.set _ _ _)) rfl ⟨M, _, _, rfl, by omega, by simpa using hM.2, ?_, ?_, kk⟩
    · exact (HN.out.same (fun i h1 h2 => hsame i h1)).mono (by omega) (Nat.le_refl _)
    · refine (HD.out.same (fun i h1 h2 => hsame i (by omega))).mono (Nat.le_refl _) (by simp)
end Go.Proofs.YtpdjpjkieafnbaaGreatDoor.Li
set_option linter.unusedVariables false
set_option linter.unusedSimpArgs false
namespace Go.Proofs.YtpdjpjkieafnbaaGreatDoor.Li
open Go.RowKit Lb
theorem Below.of_grown {wr w1 : World} (o : Obj) (h2 : (wr.alloc o).grownBy w1 (some wr.heap.size)) : Keep wr w1 := by
  refine Below.grown ((Keep.refl wr).alloc o) h2 (by simp) ?_
  intro k hk'
  simp only [Option.some.injEq] at hk'
  omega
/-- append([]uint32{}, l...). -/
theorem wpList_copy32e {wr : World} {ops : Array Oper} {rest : List Oper} {o : Oper} {a : Act} {Q : Exit → Act → World → Prop} (hgd : o.guard = none) (s x : Operand)
    (ho : o.op = .call { callee := .builtin .append, args := #[s, x], argTypes := #[52, 52] }) (l : List Nat) (ad : Option Addr) (c : Nat) (hs : a.eval s = .slice (some ⟨wr.heap.size, 0, none⟩) 0 0)
    (hx : a.eval x = .slice ad l.length c) (hr : Rd wr ad l) (hlen : l.length ≤ 35184372088000)
    (hK : ∀ v' w1, Own wr.heap.size w1 v' l → Keep wr w1 → wpList Tryz.prog ops Q rest (a.put o.dst v') w1) :
    wpList Tryz.prog ops Q (o :: rest) a (wr.alloc (.cells #[] 40)) := by
  obtain ⟨i0, hi, hz0, hz1, hz2⟩ := info_parts i62
  have hown : Own wr.heap.size (wr.alloc (.cells #[] 40)) (.slice (some ⟨wr.heap.size, 0, none⟩) 0 0) [] := ⟨rfl, .inr ⟨wr.heap.size, 0, #[], rfl, Nat.le_refl _, heap_alloc_new _ _, Nat.le_refl _, by simp [maxLen], rfl, rfl⟩⟩
  have hr' := hr.keep ((Keep.refl wr).alloc (.cells #[] 40))
  rcases ad with _ | ad
  · obtain rfl : l = [] := by
      by_cases h : l = []
      · exact h
      · obtain ⟨b, o, e, -⟩ := hr 0 (List.length_pos_iff.2 h); cases e
    refine wpList_plain hgd fun K hK' => ?_
    have hrun : (Builtin.append_ #[52, 52] o.type #[.slice (some ⟨wr.heap.size, 0, none⟩) 0 0, .slice none 0 c]).run Tryz.prog (wr.alloc (.cells #[] 40)) = .ok (.slice (some ⟨wr.heap.size, 0, none⟩) 0 0) (wr.alloc (.cells #[] 40)) := by
      go_simp
    unfold Oper.wp
    simp [execOp, ho, resolve, invoke, builtin, hs, hx, hrun, Result.andThen]
    exact hK' _ _ (hK _ _ hown ((Keep.refl wr).alloc _))
  refine wpList_append_own _ hgd s x 52 ho wr.heap.size 40 i0 (.int .u32 0) 1 4 Tryz.underlying52 hi hz0 hz1 hz2 rfl (by decide) _ _ _ hs hown ad l.length c (U l) hx (by simp [U]) ?_ (U_one l) ?_ ?_ (by simp) ?_
  · intro j u hj
    have hjl : j < l.length := by have := (List.getElem?_eq_some_iff.1 hj).1; simpa [U_length] using this
    rw [U_get l j hjl] at hj
    obtain ⟨b', o', e, hc⟩ := hr' j hjl
    simp only [Option.some.injEq] at e
    subst e
    have e2 : (Addr.mk b' o' none).add j = ⟨b', o' + j, none⟩ := by
      simp only [Addr.add]
      split
      · rename_i h; subst h; rfl
      · rfl
    rw [e2, hc, hj]
  · simp only [maxLen, List.length_nil]; omega
  · simp only [List.length_nil]; omega
  · intro v' w1 h1 h2 _
    refine hK v' w1 ?_ (Below.of_grown _ h2)
    unfold Own
    simpa [U] using h1
set_option maxRecDepth 100000 in
set_option maxHeartbeats 400000 in
theorem same_any (a b : Option Addr) (ca cb : Nat) (l : List Nat) (w : World) (_hl : l.length ≤ 70368744177664) (hra : Rd w a l) (hrb : Rd w b l) :
    Calls Tryz.prog 41 #[.slice a l.length ca, .slice b l.length cb] w fun e w' => e = .returned (.bool true) ∧ Keep w w' := by
  go_enter Tryz.func41, Tryz.ntmps41
  go_wp2
  go_loopw [5] (fun i wr => ∃ k : Nat, k ≤ l.length ∧ i = .int .i64 k ∧ Keep w wr) (fun i _ => l.length - (intOf i).toNat)
  case atStart => exact ⟨0, Nat.zero_le _, rfl, Keep.refl _⟩
  case round =>
    obtain ⟨k, hk, rfl, hd⟩ := hrel
    by_cases hkl : k < l.length
    · obtain ⟨b1, o1, rfl, hc1⟩ := (hra.keep hd) k hkl
      obtain ⟨b2, o2, rfl, hc2⟩ := (hrb.keep hd) k hkl
      obtain ⟨x, hx⟩ : ∃ x, l.getD k 0 = x := ⟨_, rfl⟩
      rw [hx] at hc1
      rw [hx] at hc2
      clear hx
      go_wp2
      go_quiet (fail)
      go_wp2
      go_roundw
      case rel => exact ⟨k + 1, by omega, by go_num, hd.drewN _⟩
      case measure => simp [intOf]; omega
    · go_wp2
      go_ret
      exact ⟨rfl, hd⟩
/-- A row of one's own, whatever it holds. -/
def AO (B C : Nat) (w : World) (v : Value) (n : Nat) : Prop := (v = .slice none 0 0 ∧ n = 0) ∨ ∃ g r, v = .slice (some ⟨g, 0, none⟩) n (r : List Nat).length ∧ B ≤ g ∧ g < C ∧ Row w g r ∧ n ≤ r.length
theorem AO.of {B C : Nat} {w : World} {v : Value} {l : List Nat} (h : Res B w v l) (hC : w.heap.size ≤ C) : AO B C w v l.length := by
  rcases h with ⟨h1, h2⟩ | ⟨g, r, e, hb, hr, h1, h2⟩
  · exact .inl ⟨h1, by rw [h2]; rfl⟩
  · exact .inr ⟨g, r, e, hb, Nat.lt_of_lt_of_le (Row.lt hr) hC, hr, h1⟩
theorem AO.same {B C : Nat} {w w' : World} {v : Value} {n : Nat} (h : AO B C w v n) (e : ∀ i, B ≤ i → i < C → w'.heap[i]? = w.heap[i]?) : AO B C w' v n := by
  rcases h with h | ⟨g, r, e1, hb, hc, hr, h1⟩
  · exact .inl h
  · exact .inr ⟨g, r, e1, hb, hc, (e g hb hc).trans hr, h1⟩
theorem AO.own {B C : Nat} {w : World} {g n : Nat} {r : List Nat} (hb : B ≤ g) (hr : Row w g r) (hn : n ≤ r.length) (hm : r.length ≤ 9223372036854775807) : Own B w (.slice (some ⟨g, 0, none⟩) n r.length) (r.take n) ∧ (r.take n).length = n := by
  have hl : (r.take n).length = n := by simp; omega
  refine ⟨⟨by simp [U], .inr ⟨g, r.length, (U r).toArray, by rw [hl], hb, hr, by rw [hl]; exact hn, by simp only [maxLen]; omega, by simp [U], ?_⟩⟩, hl⟩
  rw [hl, Nat.mul_one]
  simp [U, List.map_take]
theorem appU_ao (B C : Nat) (w : World) (ty : Nat) (v : Value) (n : Nat) (h : AO B C w v n) (hn : n ≤ 100) (hB : B ≤ w.heap.size) (ad : Addr) (y : Nat) (hc : w.cell? ad = some (.int .u32 (y : Int))) :
    ∃ g c w', (Builtin.append_ #[52, 52] ty #[v, .slice (some ad) 1 1]).run Tryz.prog w = .ok (.slice (some ⟨g, 0, none⟩) (n + 1) c) w' ∧ w'.cell? ⟨g, n, none⟩ = some (.int .u32 (y : Int)) ∧ w.grownBy w' v.ownBlock ∧ (some g = v.ownBlock ∨ g = w.heap.size) := by
  obtain ⟨i0, hi, hz0, hz1, hz2⟩ := info_parts i62
  have h1 : ∀ u ∈ U [y], u.oneCell' = true := U_one _
  have hl : (U [y]).length = 1 * 1 := rfl
  have hnews : ∀ j u, (U [y])[j]? = some u → w.cell? (ad.add j) = some u := by
    intro j u hj
    match j, hj with
    | 0, hj =>
      simp [U] at hj
      subst hj
      rw [show ad.add 0 = ad from by cases ad; rfl]; exact hc
    | j + 1, hj => simp [U] at hj
  have viaOwn : ∀ l : List Nat, l.length = n → Own B w v l → ∃ g c w', (Builtin.append_ #[52, 52] ty #[v, .slice (some ad) 1 1]).run Tryz.prog w = .ok (.slice (some ⟨g, 0, none⟩) (n + 1) c) w' ∧ w'.cell? ⟨g, n, none⟩ = some (.int .u32 (y : Int)) ∧ w.grownBy w' v.ownBlock ∧ (some g = v.ownBlock ∨ g = w.heap.size) := by
    intro l hll hown
    obtain ⟨v', w', hr, h2, h3, -, h5⟩ := run_append_own_at (P := Tryz.prog) w B 52 ty 40 i0 _ 1 4 Tryz.underlying52 hi hz0 hz1 hz2 rfl (by decide) v _ _ hown ad 1 1 (U [y]) hl hnews h1 (by simp only [maxLen]; omega) (by omega) hB
    have hO : Own B w' v' (l ++ [y]) := by unfold Own; simpa [U] using h2
    rcases hO.2 with ⟨-, q2⟩ | ⟨g, cap, cur, hv, -, hh, p1, p2, p3, p4⟩
    · simp at q2
    · refine ⟨g, cap, w', ?_, ?_, h3, by rw [hv] at h5; rcases h5 with h5 | h5; exact .inl h5; exact .inr (by simpa [Value.ownBlock] using h5)⟩
      · rw [hr, hv]; simp [hll]
      · rw [cell_of_row w' g n cur 40 (0, 0) hh]
        have e : cur.toList[n]? = (U (l ++ [y]))[n]? := by rw [← p4, List.getElem?_take, if_pos (by simp; omega)]
        rw [← Array.getElem?_toList, e]
        simp [U, hll]
  rcases h with ⟨rfl, rfl⟩ | ⟨g, r, rfl, hb, hcc, hr, hnr⟩
  · exact viaOwn [] rfl ⟨rfl, .inl ⟨rfl, rfl⟩⟩
  · by_cases hm : r.length ≤ 9223372036854775807
    · obtain ⟨o1, o2⟩ := AO.own (C := C) hb hr hnr hm
      exact viaOwn _ o2 o1
    · have e := run_append_room (P := Tryz.prog) w 52 ty 40 i0 Tryz.underlying52 hi g n r.length _ hr ad 1 1 (U [y]) (by rw [hz1]; exact hl) hnews h1 (by omega) (by rw [hz1]; simp [U]; omega)
      refine ⟨g, r.length, _, e, ?_, ?_, .inl rfl⟩
      · rw [cell_of_row _ g n _ 40 (0, 0) (setRow_heap w g _ _ 40 (0, 0) hr)]
        rw [hz1, Nat.mul_one]
        rw [← Array.getElem?_toList]
        have hl1 : ((U r).take n).length = n := by simp [U]; omega
        simp only [List.append_assoc]
        rw [List.getElem?_append_right (by simpa using Nat.le_of_eq hl1)]
        simp [U, hl1]
        rw [Nat.min_eq_left hnr, Nat.sub_self]
        rfl
      · exact ⟨rfl, rfl, rfl, by simp, fun k hk hne => setRow_other w g k _ (fun e => hne (by rw [e]; rfl))⟩
/-- append(a, 78), a a row of one's own, at the operation. -/
theorem wpList_appU (B C y : Nat) {wr : World} {ops : Array Oper} {rest : List Oper} {o : Oper} {a : Act} {Q : Exit → Act → World → Prop} (hgd : o.guard = none) (s x : Operand)
    (hop : o.op = .call { callee := .builtin .append, args := #[s, x], argTypes := #[52, 52] }) (n : Nat) (v : Value) (hs : a.eval s = v) (hao : AO B C wr v n) (hn : n ≤ 100) (hB : B ≤ wr.heap.size)
    (hx : a.eval x = .slice (some ⟨wr.heap.size, 0, none⟩) 1 1)
    (hK : ∀ g c w', w'.cell? ⟨g, n, none⟩ = some (.int .u32 (y : Int)) → (wr.alloc (.cells #[.int .u32 (y : Int)] 40)).grownBy w' v.ownBlock → (some g = v.ownBlock ∨ g = wr.heap.size + 1) → wpList Tryz.prog ops Q rest (a.put o.dst (.slice (some ⟨g, 0, none⟩) (n + 1) c)) w') :
    wpList Tryz.prog ops Q (o :: rest) a (wr.alloc (.cells #[.int .u32 (y : Int)] 40)) := by
  refine wpList_plain hgd fun K hK' => ?_
  have hao' : AO B C (wr.alloc (.cells #[.int .u32 (y : Int)] 40)) v n := by
    rcases hao with h | ⟨g, r, e1, hb, hc, hr, h1⟩
    · exact .inl h
    · exact .inr ⟨g, r, e1, hb, hc, Row.keep hr ((Keep.refl wr).alloc (.cells #[.int .u32 (y : Int)] 40)), h1⟩
  obtain ⟨g, c, w', hrun, r1, r2, r3⟩ := appU_ao B C (wr.alloc (.cells #[.int .u32 (y : Int)] 40)) o.type v n hao' hn (by simp; omega) ⟨wr.heap.size, 0, none⟩ y (by rw [cell_of_row _ _ 0 _ 40 (0, 0) (heap_alloc_new wr _)]; rfl)
  unfold Oper.wp
  simp [execOp, hop, resolve, invoke, builtin, hs, hx, hrun, Result.andThen]
  exact hK' _ _ (hK g c w' r1 r2 (by simpa using r3))
/-- Limbs that can be read, in blocks of a run. -/
def RdQ (B C : Nat) (w : World) (a : Option Addr) (l : List Nat) : Prop := ∀ j, j < l.length → ∃ b o, a = some ⟨b, o, none⟩ ∧ B ≤ b ∧ b < C ∧ w.cell? ⟨b, o + j, none⟩ = some (.int .u32 (l.getD j 0 : Nat))
theorem RdQ.same {B C : Nat} {w w' : World} {a : Option Addr} {l : List Nat} (h : RdQ B C w a l) (e : ∀ i, B ≤ i → i < C → w'.heap[i]? = w.heap[i]?) : RdQ B C w' a l := by
  intro j hj
  obtain ⟨b, o, h1, h2, h3, h4⟩ := h j hj
  exact ⟨b, o, h1, h2, h3, by rw [World.cell?_of_block (w := w) (e b h2 h3)]; exact h4⟩
theorem RdQ.rd {B C : Nat} {w : World} {a : Option Addr} {l : List Nat} (h : RdQ B C w a l) : Rd w a l := by
  intro j hj
  obtain ⟨b, o, h1, h2, h3, h4⟩ := h j hj
  exact ⟨b, o, h1, h4⟩
theorem rdB_res {B : Nat} {w : World} {v : Value} {l : List Nat} (h : Res B w v l) : ∃ a c, v = .slice a l.length c ∧ RdQ B w.heap.size w a l := by
  rcases h with ⟨rfl, rfl⟩ | ⟨g, r, rfl, hb, hr, h1, h2⟩
  · exact ⟨none, 0, rfl, fun j hj => by simp at hj⟩
  · refine ⟨some ⟨g, 0, none⟩, r.length, rfl, fun j hj => ⟨g, 0, rfl, hb, Row.lt hr, ?_⟩⟩
    rw [Nat.zero_add, hr.cell j (by omega)]
    rw [← h2]
    simp [List.getD, List.getElem?_take]
    rw [if_pos (by have := hj; rw [← h2] at this; simp at this; omega)]
theorem rdB_own {B : Nat} {w : World} {v : Value} {l : List Nat} (h : Own B w v l) : ∃ a c, v = .slice a l.length c ∧ RdQ B w.heap.size w a l := by
  rcases h.2 with ⟨h1, h2⟩ | ⟨g, cap, cur, hv, hg, hh, h1, h2, h3, h4⟩
  · exact ⟨none, 0, by rw [h1, h2], fun j hj => by omega⟩
  · refine ⟨some ⟨g, 0, none⟩, cap, hv, fun j hj => ⟨g, 0, rfl, hg, (Array.getElem?_eq_some_iff.1 hh).1, ?_⟩⟩
    rw [Nat.zero_add, cell_of_row w g j cur 40 (0, 0) hh, ← U_get l j hj, ← h4]
    simp [hj]
end Go.Proofs.YtpdjpjkieafnbaaGreatDoor.Li
