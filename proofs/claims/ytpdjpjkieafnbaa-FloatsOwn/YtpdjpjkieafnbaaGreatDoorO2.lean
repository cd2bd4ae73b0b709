import Derived.Test.YtpdjpjkieafnbaaGreatDoorO1
import Derived.Test.YtpdjpjkieafnbaaGreatDoorLC18
set_option linter.unusedVariables false
set_option linter.unusedSimpArgs false
namespace Go.Proofs.YtpdjpjkieafnbaaGreatDoor.Li
open Go.RowKit Lb
/-- A number as a quotient: is it none, its sign, its numerator, its denominator. -/
def qB (b : Nat) : Bool := decide (pKind b = 3 ∨ pKind b = 4)
def qX (b : Nat) : Nat := pM b * 2 ^ (pE b).toNat
def qY (b : Nat) : Nat := 1 * 2 ^ (-(pE b)).toNat
def qZ (b : Nat) : Int := if qB b then 60 else 0
def qS (b : Nat) : Bool := !(qB b) && !(decide (qX b = 0)) && pNeg b
def qN (b : Nat) : Nat := if qB b then 0 else qX b / Nat.gcd (qX b) (qY b)
def qD (b : Nat) : Nat := if qB b then 0 else qY b / Nat.gcd (qX b) (qY b)
theorem NatQ.lt {B C : Nat} {w : World} {v : Value} {n : Nat} (h : NatQ B C w v n) (hC : C ≤ w.heap.size) : True := trivial
theorem NatQ.shape {B C : Nat} {w : World} {v : Value} {n : Nat} (h : NatQ B C w v n) : ∃ a l c, v = .slice a l c := by
  obtain ⟨l, (h | ⟨g, r, e, _⟩), _⟩ := h
  · exact ⟨none, 0, 0, h.1⟩
  · exact ⟨_, _, _, e⟩
/-- Blocks of a run stay as they were. -/
theorem NatQ.same {B C : Nat} {w w' : World} {v : Value} {n : Nat} (h : NatQ B C w v n) (e : ∀ i, B ≤ i → i < C → w'.heap[i]? = w.heap[i]?) : NatQ B C w' v n := by
  obtain ⟨l, h1, h2⟩ := h
  refine ⟨l, ?_, h2⟩
  rcases h1 with h | ⟨g, r, e1, hb, hc, hr, q⟩
  · exact .inl h
  · exact .inr ⟨g, r, e1, hb, hc, (e g hb hc).trans hr, q⟩
theorem NatQ.mono {B C B' C' : Nat} {w : World} {v : Value} {n : Nat} (h : NatQ B C w v n) (hB : B' ≤ B) (hC : C ≤ C') : NatQ B' C' w v n := by
  obtain ⟨l, h1, h2⟩ := h
  refine ⟨l, ?_, h2⟩
  rcases h1 with h | ⟨g, r, e1, hb, hc, q⟩
  · exact .inl h
  · exact .inr ⟨g, r, e1, by omega, by omega, q⟩
theorem pE_in (b : Nat) : -1074 ≤ pE b ∧ pE b ≤ 971 := by
  unfold pE
  have hf : pField b < 2048 := Nat.mod_lt _ (by omega)
  (repeat' split) <;> omega
theorem pM_lt (b : Nat) : pM b < 9007199254740992 := by
  unfold pM
  have hk : pKept b < 4503599627370496 := Nat.mod_lt _ (by omega)
  split <;> omega
/-- Over, of any two naturals, in memory of its own. -/
theorem Over_own (neg : Bool) (v1 v2 : Value) (N D K : Nat) (w : World) (h1 : Lv w v1 N K) (h2 : Lv w v2 D K) (hK : K ≤ 70368744177663) (hD : 0 < D) :
    Calls Tryz.prog 40 #[.bool neg, v1, v2] w fun e w' => ∃ M vn vd, e = .returned (.tuple #[.agg #[.bool (!(decide (N = 0)) && neg), vn, vd], .int .i64 0]) ∧ w.heap.size ≤ M ∧ M ≤ w'.heap.size ∧ NatQ w.heap.size M w' vn (N / Nat.gcd N D) ∧ NatQ M w'.heap.size w' vd (D / Nat.gcd N D) ∧ Keep w w' := by
  obtain ⟨a, c, l, rfl, p1, p2, p3, p4, p5⟩ := h1
  obtain ⟨b, d, r, rfl, q1, q2, q3, q4, q5⟩ := h2
  have hr : nl r ≠ 0 := fun h => by have := nl_val.1 h; omega
  by_cases hN : N = 0
  · have hl : nl l = 0 := nl_val.2 (by omega)
    refine (Over_nought_own neg a b c d l r w p1 q1 (by omega) (by omega) p3 q3 hr hl).mono ?_
    rintro e w' ⟨M, vn, vd, rfl, k1, k2, k3, k4, k5⟩
    refine ⟨M, vn, vd, by rw [decide_eq_true hN]; rfl, k1, k2, ?_, ?_, k5⟩
    · rw [hN, Nat.zero_div]; exact k3
    · rw [hN, Nat.gcd_zero_left, Nat.div_self hD]; exact k4
  · have hl : nl l ≠ 0 := fun h => by have := nl_val.1 h; omega
    refine (Over_full_own neg a b c d l r w p1 q1 (by omega) (by omega) p3 q3 p4 q4 hr hl).mono ?_
    rintro e w' ⟨M, vn, vd, rfl, k1, k2, k3, k4, k5⟩
    rw [p5, q5] at k3 k4
    exact ⟨M, vn, vd, by rw [decide_eq_false hN]; rfl, k1, k2, k3, k4, k5⟩
theorem results_rat {fn : Func} {t u : Tmp} (h : fn.results = #[.cell t 54, .tmp u]) (tmps : Array Value) (w : World) (g : Nat) (x y z : Value) (hp : tmps.getD t undef = .pointer (some ⟨g, 0, none⟩)) (hh : Box w g x y z) :
    (results fn tmps).run Tryz.prog w = .ok (.tuple #[.agg #[x, y, z], tmps.getD u undef]) w := by
  obtain ⟨c0, c1, c2⟩ := hh.cells
  have hp' : (tmps[t]?).getD undef = .pointer (some ⟨g, 0, none⟩) := by simpa using hp
  simp [results, h, hp, hp', go_sem, c0, c1, c2]
set_option maxRecDepth 100000 in
set_option maxHeartbeats 1000000 in
theorem Quotient_own (b : Nat) (hb : b < 18446744073709551616) (w : World) :
    Calls Tryz.prog 32 #[.float .f64 b] w fun e w' => ∃ M vn vd, e = .returned (.tuple #[.agg #[.bool (qS b), vn, vd], .int .i64 (qZ b)]) ∧ w.heap.size ≤ M ∧ M ≤ w'.heap.size ∧ NatQ w.heap.size M w' vn (qN b) ∧ NatQ M w'.heap.size w' vd (qD b) ∧ Keep w w' := by
  have hP := fun wx => Parts_any b hb wx
  have hk5 : pKind b ≤ 4 := by unfold pKind; (repeat' split) <;> omega
  obtain ⟨w0, hw0⟩ : ∃ w0, w.alloc (.cells #[.bool false, .slice none 0 0, .slice none 0 0] 54) = w0 := ⟨_, rfl⟩
  have B0 : Hid (Box w0 w.heap.size (.bool false) (.slice none 0 0) (.slice none 0 0)) := by unfold Hid; rw [← hw0]; exact Box.new w _ _ _
  have K0 : Hid (Keep w w0) := by unfold Hid; rw [← hw0]; exact (Keep.refl w).alloc _
  have Z0 : Hid (w0.heap.size = w.heap.size + 1) := by unfold Hid; rw [← hw0]; simp
  by_cases hq : qB b = true
  · have e1 : qZ b = 60 := by unfold qZ; rw [hq]; rfl
    have e2 : qS b = false := by unfold qS; rw [hq]; rfl
    have e3 : qN b = 0 := by unfold qN; rw [hq]; rfl
    have e4 : qD b = 0 := by unfold qD; rw [hq]; rfl
    rw [e1, e2, e3, e4]
    have hkk := of_decide_eq_true hq
    rcases hkk with h3 | h3
    all_goals
      rw [h3] at hP
      generalize pM b = m at hP
      generalize pE b = ee at hP
      generalize pNeg b = ng at hP
      clear hk5 h3 hq e1 e2 e3 e4
      go_enter Tryz.func32, Tryz.ntmps32
      go_wp2_with fail
      refine (hP _).mono ?_
      rintro e w2 ⟨rfl, k2⟩
      have B2 := B0.out.keep k2
      obtain ⟨c0, c1, c2⟩ := B2.cells
      have f0 := B2.free 0
      have f1 := B2.free 1
      have f2 := B2.free 2
      have HB2 : Hid (Box w2 w.heap.size (.bool false) (.slice none 0 0) (.slice none 0 0)) := B2
      clear B2
      have K2 : Hid (Keep w w2) := K0.out.trans k2
      go_wp2_with fail
      have kk := ((K2.out.setCell (p := ⟨w.heap.size, 0, none⟩) (Nat.le_refl _) (.bool false)).setCell (p := ⟨w.heap.size, 1, none⟩) (Nat.le_refl _) (.slice none 0 0)).setCell (p := ⟨w.heap.size, 2, none⟩) (Nat.le_refl _) (.slice none 0 0)
      exact bodyPost_ret (results_rat rfl _ _ w.heap.size _ _ _ rfl (HB2.out.set _ _ _)) rfl ⟨w.heap.size, _, _, rfl, Nat.le_refl _, kk.le, NatQ.nil _ _ _, NatQ.nil _ _ _, kk⟩
  · have hq' : qB b = false := by simpa using hq
    have e1 : qZ b = 0 := by unfold qZ; rw [hq']; rfl
    have e2 : qS b = (!(decide (qX b = 0)) && pNeg b) := by unfold qS; rw [hq']; rfl
    have e3 : qN b = qX b / Nat.gcd (qX b) (qY b) := by unfold qN; rw [hq']; rfl
    have e4 : qD b = qY b / Nat.gcd (qX b) (qY b) := by unfold qD; rw [hq']; rfl
    rw [e1, e2, e3, e4]
    have hkk : ¬ (pKind b = 3 ∨ pKind b = 4) := of_decide_eq_false hq'
    have y3 : ((pKind b : Int) == 3) = false := by rw [beq_eq_false_iff_ne]; omega
    have y4 : ((pKind b : Int) == 4) = false := by rw [beq_eq_false_iff_ne]; omega
    have hm := pM_lt b
    have he := pE_in b
    have hF := fun wx => From_lv (pM b) wx (by omega)
    have hF1 := fun wx => From_lv 1 wx (by omega)
    have hS := fun v1 v2 wx h1 h2 => scaled_lv v1 v2 (pM b) 1 2 (pE b) wx h1 h2 (by omega) (by omega)
    rw [show pM b * 2 ^ (pE b).toNat = qX b from rfl, show 1 * 2 ^ (-(pE b)).toNat = qY b from rfl] at hS
    have hY0 : 0 < qY b := by unfold qY; rw [Nat.one_mul]; exact Nat.two_pow_pos _
    have hO := fun v1 v2 wx h1 h2 => Over_own (pNeg b) v1 v2 (qX b) (qY b) 102 wx h1 h2 (by omega) hY0
    clear e1 e2 e3 e4 hq hq' hkk hk5 hm he hY0
    generalize qX b = X at *
    generalize qY b = Y at *
    generalize pM b = m at *
    generalize pE b = ee at *
    generalize pNeg b = ng at *
    generalize pKind b = kd at *
    generalize hA : X / Nat.gcd X Y = A at *
    generalize hB : Y / Nat.gcd X Y = B at *
    clear hA hB
    generalize (!(decide (X = 0)) && ng) = sgn at *
    go_enter Tryz.func32, Tryz.ntmps32
    go_wp2_with fail
    refine (hP _).mono ?_
    rintro e w2 ⟨rfl, k2⟩
    go_wp2_with fail
    refine (hF _).mono ?_
    rintro e w3 ⟨va, rfl, hva, k3⟩
    go_wp2_with fail
    refine (hF1 _).mono ?_
    rintro e w4 ⟨vb, rfl, hvb, k4⟩
    go_wp2_with fail
    refine (hS va vb _ (hva.keep k4) hvb).mono ?_
    rintro e w5 ⟨u1, u2, rfl, hu1, hu2, k5⟩
    go_wp2_with fail
    refine (hO u1 u2 _ hu1 hu2).mono ?_
    rintro e w6 ⟨M, vn, vd, rfl, m1, m2, hvn, hvd, k6⟩
    obtain ⟨an, ln, cn, rfl⟩ := hvn.shape
    obtain ⟨ad, ld, cd, rfl⟩ := hvd.shape
    have kk : Keep w0 w6 := (((k2.trans k3).trans k4).trans k5).trans k6
    have B6 := B0.out.keep kk
    obtain ⟨c0, c1, c2⟩ := B6.cells
    have f0 := B6.free 0
    have f1 := B6.free 1
    have f2 := B6.free 2
    have HB6 : Hid (Box w6 w.heap.size (.bool false) (.slice none 0 0) (.slice none 0 0)) := B6
    have K6 : Hid (Keep w w6) := K0.out.trans kk
    have hs5 : Hid (w.heap.size < w5.heap.size) := by
      have h1 := ((((k2.trans k3).trans k4).trans k5)).le
      have h2 := Z0.out
      unfold Hid
      omega
    have HN : Hid (NatQ w5.heap.size M w6 (.slice an ln cn) A) := hvn
    have HD : Hid (NatQ M w6.heap.size w6 (.slice ad ld cd) B) := hvd
    have HM : Hid (w5.heap.size ≤ M ∧ M ≤ w6.heap.size) := ⟨m1, m2⟩
    clear B6 kk k2 k3 k4 k5 k6 hvn hvd m1 m2 hva hvb hu1 hu2
    go_wp2_with fail
    have kk := ((K6.out.setCell (p := ⟨w.heap.size, 0, none⟩) (Nat.le_refl _) (.bool sgn)).setCell (p := ⟨w.heap.size, 1, none⟩) (Nat.le_refl _) (.slice an ln cn)).setCell (p := ⟨w.heap.size, 2, none⟩) (Nat.le_refl _) (.slice ad ld cd)
    have hsame : ∀ i, w5.heap.size ≤ i → (((w6.setCell ⟨w.heap.size, 0, none⟩ (.bool sgn)).setCell ⟨w.heap.size, 1, none⟩ (.slice an ln cn)).setCell ⟨w.heap.size, 2, none⟩ (.slice ad ld cd)).heap[i]? = w6.heap[i]? := by
      intro i hi
      have := hs5.out
      rw [heap_setCell_other _ _ i _ (by show i ≠ w.heap.size; omega), heap_setCell_other _ _ i _ (by show i ≠ w.heap.size; omega), heap_setCell_other _ _ i _ (by show i ≠ w.heap.size; omega)]
    have hM := HM.out
    have h5 := hs5.out
    refine bodyPost_ret (results_rat rfl _ _ w.heap.size _ _ _ rfl (HB6.out.set _ _ _)) rfl ⟨M, _, _, rfl, by omega, by simpa using hM.2, ?_, ?_, kk⟩
    · exact (HN.out.same (fun i h1 h2 => hsame i h1)).mono (by omega) (Nat.le_refl _)
    · refine (HD.out.same (fun i h1 h2 => hsame i (by omega))).mono (Nat.le_refl _) (by simp)
end Go.Proofs.YtpdjpjkieafnbaaGreatDoor.Li
