import Derived.Test.YtgmnadlmejkkpaaDoorF6
import Derived.Test.YtgmnadlmejkkpaaDoorD6
set_option linter.unusedVariables false
set_option linter.unusedSimpArgs false
namespace Go.Proofs.YtgmnadlmejkkpaaDoor
open Go.RowKit
theorem hs_and {l m : List Nat} (h : l.length = m.length) (i : Nat) : hs (zw (fun x y => x &&& y) l m) i = (hs l i && hs m i) := by
  by_cases hi : i / 64 < l.length
  · unfold hs
    rw [zw_get _ h hi, Nat.testBit_and]
  · rw [hs_out (l := zw _ l m) (by rw [zw_length _ h]; omega), hs_out (l := l) (by omega), Bool.false_and]
theorem hasI_and {l m : List Nat} (h : l.length = m.length) (i : Int) : hasI (zw (fun x y => x &&& y) l m) i = (hasI l i && hasI m i) := by
  unfold hasI
  rw [hs_and h]
  cases decide (0 ≤ i) <;> simp
theorem cn_and {l m : List Nat} (h : l.length = m.length) (k : Nat) : cn (zw (fun x y => x &&& y) l m) k ≤ cn l k := by
  unfold cn
  apply List.countP_mono_left
  intro i _ hi
  rw [hs_and h, Bool.and_eq_true] at hi
  exact hi.1
/-- Meet of a copy and words of one's own that were there before. -/
theorem Meet_mask {w1 w2 : World} {vb : Value} {l m : List Nat} (g : Nat) (cm : Nat) (hm : Row w1 g m) (hb : Own w1.heap.size w2 vb l) (k2 : Keep w1 w2) (hl : l.length ≤ 17592186044416) (hwl : W64 l) (hwm : W64 m) :
    ∃ aB cB, vb = .slice aB l.length cB ∧ Calls Tryd.prog 27 #[vb, .slice (some ⟨g, 0, none⟩) m.length cm] w2 fun e w' => e = .returned (.int .i64 (ansE l m)) ∧ (l.length = m.length → Rd w' aB (zw (fun x y => x &&& y) l m)) ∧ Keep w1 w' := by
  obtain ⟨aB, cB, eB, -, rB⟩ := hb.shape
  refine ⟨aB, cB, eB, ?_⟩
  have rM : Rd w2 (some ⟨g, 0, none⟩) m := by
    have := (hm.keep k2).rd 0 m.length (by omega)
    rw [List.drop_zero, List.take_of_length_le (Nat.le_refl _)] at this
    exact this
  by_cases h : l.length = m.length
  · unfold ansE
    rw [if_pos h]
    by_cases h0 : l.length = 0
    · have e1 : l = [] := List.length_eq_zero_iff.1 h0
      have e2 : m = [] := List.length_eq_zero_iff.1 (by omega)
      subst e1 e2
      rw [eB]
      refine (Meet_nil aB _ cB cm w2).mono ?_
      rintro e w' ⟨rfl, rfl⟩
      exact ⟨rfl, fun _ => Rd.nil _ _, k2⟩
    · rcases hb.at with ⟨-, e0⟩ | ⟨g', cur, cap, e1, g1, h1, n1, t1⟩
      · subst e0; simp at h0
      · have hg : g < w1.heap.size := hm.lt
        have hne : g ≠ g' := by omega
        have hcu : ∀ j, j < l.length → cur[j]? = some (.int .u64 (l.getD j 0 : Nat)) := by
          intro j hj
          have q := congrArg (fun t => t[j]?) t1
          simp only [List.getElem?_take, hj, if_true] at q
          rw [U_get l j hj] at q
          simpa using q
        have eaB : aB = some ⟨g', 0, none⟩ := by rw [eB] at e1; injection e1
        subst eaB
        rw [eB, ← h]
        refine (Meet_rows g' g cB cm cur _ l m w2 h1 (hm.keep k2) hne hl h hcu rM hwl hwm).mono ?_
        rintro e w' ⟨rfl, r1, m1⟩
        exact ⟨rfl, fun _ => r1, k2.mut m1 g1⟩
  · unfold ansE
    rw [if_neg h, eB]
    refine (Meet_ne cB cm aB _ l.length m.length w2 h).mono ?_
    rintro e w' ⟨rfl, rfl⟩
    exact ⟨rfl, fun e => absurd e h, k2⟩
set_option maxRecDepth 100000 in
set_option maxHeartbeats 1000000 in
/-- The mask is refused. -/
theorem meets_no (a : Option Addr) (ca : Nat) (l : List Nat) (n fr to i : Int) (w : World) (h : mno n fr to) (hT : Tab w) :
    Calls Tryd.prog 10 #[.slice a l.length ca, .int .i64 n, .int .i64 fr, .int .i64 to, .int .i64 i] w fun e w' => e = .returned (.bool true) ∧ Keep w w' := by
  have hL := lives_any w hT
  have hM := fun w => Mask_no n fr to w h
  unfold mno at h
  by_cases h1 : n < 0
  · go_enter Tryd.func10, Tryd.ntmps10
    go_wp2_with fail
    refine hL.mono ?_
    rintro e w1 ⟨rfl, k1⟩
    go_wp2_with fail
    refine (hM w1).mono ?_
    rintro e w2 ⟨rfl, k2⟩
    go_wp2_with fail
    go_ret
    exact ⟨rfl, k1.trans k2⟩
  · by_cases h2 : 1048576 < n
    · go_enter Tryd.func10, Tryd.ntmps10
      go_wp2_with fail
      refine hL.mono ?_
      rintro e w1 ⟨rfl, k1⟩
      go_wp2_with fail
      refine (hM w1).mono ?_
      rintro e w2 ⟨rfl, k2⟩
      go_wp2_with fail
      go_ret
      exact ⟨rfl, k1.trans k2⟩
    · by_cases h3 : fr < 0
      · go_enter Tryd.func10, Tryd.ntmps10
        go_wp2_with fail
        refine hL.mono ?_
        rintro e w1 ⟨rfl, k1⟩
        go_wp2_with fail
        refine (hM w1).mono ?_
        rintro e w2 ⟨rfl, k2⟩
        go_wp2_with fail
        go_ret
        exact ⟨rfl, k1.trans k2⟩
      · by_cases h4 : to < fr
        · go_enter Tryd.func10, Tryd.ntmps10
          go_wp2_with fail
          refine hL.mono ?_
          rintro e w1 ⟨rfl, k1⟩
          go_wp2_with fail
          refine (hM w1).mono ?_
          rintro e w2 ⟨rfl, k2⟩
          go_wp2_with fail
          go_ret
          exact ⟨rfl, k1.trans k2⟩
        · have h5 : n < to := by omega
          clear h
          go_enter Tryd.func10, Tryd.ntmps10
          go_wp2_with fail
          refine hL.mono ?_
          rintro e w1 ⟨rfl, k1⟩
          go_wp2_with fail
          refine (hM w1).mono ?_
          rintro e w2 ⟨rfl, k2⟩
          go_wp2_with fail
          go_ret
          exact ⟨rfl, k1.trans k2⟩
end Go.Proofs.YtgmnadlmejkkpaaDoor
