import Derived.Test.YtgmnadlmejkkpaaDoorF5
set_option linter.unusedVariables false
set_option linter.unusedSimpArgs false
namespace Go.Proofs.YtgmnadlmejkkpaaDoor
open Go.RowKit
theorem Own.at {B : Nat} {w : World} {v : Value} {l : List Nat} (h : Own B w v l) : (v = .slice none 0 0 ∧ l = []) ∨ ∃ g cur cap, v = .slice (some ⟨g, 0, none⟩) l.length cap ∧ B ≤ g ∧ w.heap[g]? = some (.cells cur 59 (0, 0)) ∧ l.length ≤ cap ∧ cur.toList.take l.length = U l := by
  rcases h.2 with ⟨h1, h2⟩ | ⟨g, cap, cur, hv, hg, hh, h1, h2, h3, h4⟩
  · exact .inl ⟨h1, List.length_eq_zero_iff.1 h2⟩
  · refine .inr ⟨g, cur, cap, hv, hg, hh, h1, ?_⟩
    simpa using h4
theorem Meet_ne (ca cb : Nat) (a b : Option Addr) (n m : Nat) (w : World) (h : n ≠ m) :
    Calls Tryd.prog 27 #[.slice a n ca, .slice b m cb] w fun e w' => e = .returned (.int .i64 6) ∧ w' = w := by
  have hne : ((n : Int) == (m : Int)) = false := by rw [beq_eq_false_iff_ne]; omega
  have hne2 : ((n : Int) != (m : Int)) = true := by rw [bne_iff_ne]; omega
  go_enter Tryd.func27, Tryd.ntmps27
  go_wp2_with fail
  go_ret
  exact ⟨rfl, rfl⟩
theorem Mut.of_same {g : Nat} {w w' : World} (k : Keep w w') (h : w'.heap = w.heap) : Mut g w w' := ⟨k.os, k.tape, k.output, by rw [h], fun i _ => by rw [h]⟩
theorem off_row {ga gb : Nat} (h : gb ≠ ga) (m : List Nat) : Off ga (some ⟨gb, 0, none⟩) m := by
  intro b o s e _
  cases e
  exact h
set_option maxRecDepth 100000 in
set_option maxHeartbeats 400000 in
theorem Meet_rows (ga gb ca cb : Nat) (ra rb : Array Value) (l m : List Nat) (w : World) (hra : RowC w ga ra) (hrb : RowC w gb rb) (hne : gb ≠ ga) (hl : l.length ≤ 17592186044416) (hlm : l.length = m.length)
    (hca : ∀ j, j < l.length → ra[j]? = some (.int .u64 (l.getD j 0 : Nat))) (hcb : Rd w (some ⟨gb, 0, none⟩) m) (hwl : W64 l) (hwm : W64 m) :
    Calls Tryd.prog 27 #[.slice (some ⟨ga, 0, none⟩) l.length ca, .slice (some ⟨gb, 0, none⟩) l.length cb] w fun e w' => e = .returned (.int .i64 0) ∧ Rd w' (some ⟨ga, 0, none⟩) (zw (fun x y => x &&& y) l m) ∧ Mut ga w w' := by
  have hB := begins_no ga ca gb cb l.length ra rb w hra hrb hne hl
  have hJ := fun w1 (k : Keep w w1) => join_self ga ca ca cb (some ⟨gb, 0, none⟩) ra l m w1 (hra.keep k) hca hlm hl (hcb.keep k) hwl hwm (off_row hne m)
  clear hca hlm
  go_enter Tryd.func27, Tryd.ntmps27
  go_wp2_with fail
  refine hB.mono ?_
  rintro e w1 ⟨rfl, k1, s1⟩
  go_wp2_with fail
  refine (hJ w1 k1).mono ?_
  rintro e w2 ⟨rfl, r2, m2⟩
  go_wp2_with fail
  go_ret
  exact ⟨rfl, r2, (Mut.of_same k1 s1).trans m2⟩
theorem Meet_nil (a b : Option Addr) (ca cb : Nat) (w : World) :
    Calls Tryd.prog 27 #[.slice a 0 ca, .slice b 0 cb] w fun e w' => e = .returned (.int .i64 0) ∧ w' = w := by
  have hB : ∀ w, Calls Tryd.prog 58 #[.slice a 0 ca, .slice b 0 cb] w fun e w' => e = .returned (.bool false) ∧ w' = w := by
    intro w
    go_enter Tryd.func58, Tryd.ntmps58
    go_wp2_with fail
    refine wp_loop_rounds 1 ?_
    rw [rounds_succ]
    go_wp2_with fail
    go_ret
    exact ⟨rfl, rfl⟩
  have hJ : ∀ w, Calls Tryd.prog 60 #[.slice a 0 ca, .slice a 0 ca, .slice b 0 cb, .func (.func 55) #[] #[]] w fun e w' => e = .returned (.tuple #[]) ∧ w' = w := by
    intro w
    go_enter Tryd.func60, Tryd.ntmps60
    go_wp2_with fail
    refine wp_loop_rounds 1 ?_
    rw [rounds_succ]
    go_wp2_with fail
    go_end0
    exact ⟨rfl, rfl⟩
  go_enter Tryd.func27, Tryd.ntmps27
  go_wp2_with fail
  refine (hB w).mono ?_
  rintro e w1 ⟨rfl, rfl⟩
  go_wp2_with fail
  refine (hJ w1).mono ?_
  rintro e w2 ⟨rfl, rfl⟩
  go_wp2_with fail
  go_ret
  exact ⟨rfl, rfl⟩
/-- Meet of two copies. -/
theorem Meet_own {w0 w1 w2 : World} {vc vd : Value} {l m : List Nat} (hc : Own w0.heap.size w1 vc l) (hd : Own w1.heap.size w2 vd m) (k1 : Keep w0 w1) (k2 : Keep w1 w2) (hl : l.length ≤ 17592186044416) (hwl : W64 l) (hwm : W64 m) :
    ∃ aC cC aD cD, vc = .slice aC l.length cC ∧ vd = .slice aD m.length cD ∧ Calls Tryd.prog 27 #[vc, vd] w2 fun e w' => e = .returned (.int .i64 (ansE l m)) ∧ Rd w' aC (if l.length = m.length then zw (fun x y => x &&& y) l m else l) ∧ Rd w' aD m ∧ Keep w0 w' := by
  obtain ⟨aC, cC, eC, -, rC⟩ := (hc.keep k2).shape
  obtain ⟨aD, cD, eD, -, rD⟩ := hd.shape
  refine ⟨aC, cC, aD, cD, eC, eD, ?_⟩
  by_cases h : l.length = m.length
  · unfold ansE
    rw [if_pos h, if_pos h]
    by_cases h0 : l.length = 0
    · have e1 : l = [] := List.length_eq_zero_iff.1 h0
      have e2 : m = [] := List.length_eq_zero_iff.1 (by omega)
      subst e1 e2
      rw [eC, eD]
      refine (Meet_nil aC aD cC cD w2).mono ?_
      rintro e w' ⟨rfl, rfl⟩
      exact ⟨rfl, Rd.nil _ _, Rd.nil _ _, k1.trans k2⟩
    · rcases hc.at with ⟨-, e0⟩ | ⟨g, cur, cap, e1, g1, h1, n1, t1⟩
      · subst e0; simp at h0
      · rcases hd.at with ⟨-, e0⟩ | ⟨g', cur', cap', e2, g2, h2, n2, t2⟩
        · subst e0; exact absurd h h0
        · have hg : g < w1.heap.size := (Array.getElem?_eq_some_iff.1 h1).1
          have hne : g' ≠ g := by omega
          have h1' : RowC w1 g cur := h1
          have hcu : ∀ j, j < l.length → cur[j]? = some (.int .u64 (l.getD j 0 : Nat)) := by
            intro j hj
            have q := congrArg (fun t => t[j]?) t1
            simp only [List.getElem?_take, hj, if_true] at q
            rw [U_get l j hj] at q
            simpa using q
          have eaC : aC = some ⟨g, 0, none⟩ := by rw [eC] at e1; injection e1
          have eaD : aD = some ⟨g', 0, none⟩ := by rw [eD] at e2; injection e2
          subst eaC eaD
          rw [eC, eD, ← h]
          refine (Meet_rows g g' cC cD cur cur' l m w2 (h1'.keep k2) h2 hne hl h hcu rD hwl hwm).mono ?_
          rintro e w' ⟨rfl, r1, m1⟩
          refine ⟨rfl, r1, rD.mut m1 (off_row hne m), (k1.trans k2).mut m1 g1⟩
  · unfold ansE
    rw [if_neg h, if_neg h, eC, eD]
    refine (Meet_ne cC cD aC aD l.length m.length w2 h).mono ?_
    rintro e w' ⟨rfl, rfl⟩
    exact ⟨rfl, rC, rD, k1.trans k2⟩
end Go.Proofs.YtgmnadlmejkkpaaDoor
