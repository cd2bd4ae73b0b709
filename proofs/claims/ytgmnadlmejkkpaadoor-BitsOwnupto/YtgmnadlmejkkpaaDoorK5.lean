import Derived.Test.YtgmnadlmejkkpaaDoorK3
import Derived.Test.YtgmnadlmejkkpaaDoorG1
set_option linter.unusedVariables false
set_option linter.unusedSimpArgs false
namespace Go.Proofs.YtgmnadlmejkkpaaDoor
open Go.RowKit
/-- Between two runs lies a bit that is out. -/
def St (L : List (Nat × Nat)) : Prop := ∀ j, j + 1 < L.length → (L.getD j (0, 0)).2 < (L.getD (j + 1) (0, 0)).1
set_option maxRecDepth 100000 in
set_option maxHeartbeats 1000000 in
theorem Runs_st (a : Option Addr) (c : Nat) (l : List Nat) (w : World) (hl : l.length ≤ 1048576) (hr : Rd w a l) (hw : W64 l) (hT : Tab w) :
    Calls Tryd.prog 46 #[.slice a l.length c] w fun e w' => ∃ (v : Value) (L : List (Nat × Nat)), e = .returned v ∧ OwnR w.heap.size w' v L ∧ L.length ≤ 64 * l.length ∧ Ch L (64 * l.length) ∧ Cov l L (64 * l.length) ∧ St L ∧ Keep w w' := by
  have hS := fun wx (i : Nat) (b : Bool) (hi : i ≤ 64 * l.length) (k : Keep w wx) => seek_any a c i l b wx (by omega) hi (hr.keep k) hw (hT.keep k)
  have h0 := hS w 0 true (by omega) (Keep.refl _)
  go_enter Tryd.func46, Tryd.ntmps46
  go_wp2_with (go_at_call 70; refine h0.mono ?_; clear h0; rintro e w' ⟨⟨j, rfl, hj⟩, rfl⟩)
  go_loopw [3, 5] (fun v i wr => ∃ (k : Nat) (L : List (Nat × Nat)), i = .int .i64 k ∧ k ≤ 64 * l.length ∧ OwnR w'.heap.size wr v L ∧ Hid (L.length ≤ k ∧ Ch L k ∧ Cov l L k ∧ (k < 64 * l.length → hs l k = true)) ∧ Hid (St L ∧ (k < 64 * l.length → ∀ j, j < L.length → (L.getD j (0, 0)).2 < k)) ∧ Keep w' wr) (fun _ i _ => 64 * l.length - (intOf i).toNat)
  case atStart => exact ⟨j, [], rfl, hj.2.1, OwnR.nil _ _, ⟨by simp, fun j hj => by simp at hj, Cov.rest (e := 0) (fun p hp => by omega) (fun j hj => by simp at hj) (fun p _ h2 => hj.2.2.1 p (by omega) h2), hj.2.2.2⟩, ⟨fun j h => by simp at h, fun _ j h => by simp at h⟩, Keep.refl _⟩
  case round =>
    obtain ⟨k, L, rfl, hk, hown, hinv, hst, hkp⟩ := hrel
    obtain ⟨av, cv, rfl, hcv, -⟩ := hown.shape
    by_cases hkl : k < 64 * l.length
    · have hgt : (k : Int) < (l.length : Int) * 64 := by omega
      have h1 := hS wr k false hk hkp
      have hbd : L.length < 1099511627776 := by have := hinv.out.1; omega
      go_wp2_with first
        | (go_at_call 70; refine h1.mono ?_; clear h1; rintro e w1 ⟨⟨j2, rfl, hj2⟩, rfl⟩)
        | (at_builtin; refine wpList_appR rfl _ _ rfl L _ rfl k j2 rfl hown hkp hbd ?_; intro v' w2 hown' hk')
      have h2 := hS w2 j2 true hj2.2.1 hk'
      refine h2.mono ?_
      rintro e w3 ⟨⟨j3, rfl, hj3⟩, rfl⟩
      obtain ⟨av', cv', rfl, hcv', -⟩ := hown'.shape
      rw [List.length_append, List.length_singleton] at hown'
      have hkj : k < j2 := by
        rcases Nat.lt_or_ge k j2 with h | h
        · exact h
        · have e : j2 = k := by have := hj2.1; omega
          have q := hj2.2.2.2 (by omega)
          rw [e, hinv.out.2.2.2 hkl] at q
          cases q
      have Hnew : Hid ((L ++ [(k, j2)]).length ≤ j3 ∧ Ch (L ++ [(k, j2)]) j3 ∧ Cov l (L ++ [(k, j2)]) j3 ∧ (j3 < 64 * l.length → hs l j3 = true)) := by
        obtain ⟨q1, q2, q3, q4⟩ := hinv.out
        have c1 := q2.snoc (Nat.le_refl _) hkj
        have c2 := q3.snoc q2 (t := j2) (fun p p1 p2 => by have := hj2.2.2.1 p p1 p2; simpa using this)
        refine ⟨by rw [List.length_append, List.length_singleton]; have := hj3.1; omega, ?_, ?_, hj3.2.2.2⟩
        · intro j hj'
          obtain ⟨r1, r2, r3⟩ := c1 j hj'
          exact ⟨r1, by have := hj3.1; omega, r3⟩
        · exact c2.rest c1 (fun p p1 p2 => by have := hj3.2.2.1 p p1 p2; simpa using this)
      have Hst : Hid (St (L ++ [(k, j2)]) ∧ (j3 < 64 * l.length → ∀ j, j < (L ++ [(k, j2)]).length → ((L ++ [(k, j2)]).getD j (0, 0)).2 < j3)) := by
        obtain ⟨s1, s2⟩ := hst.out
        have s3 := s2 hkl
        refine ⟨?_, ?_⟩
        · intro j hj'
          rw [List.length_append, List.length_singleton] at hj'
          rw [getD_snoc, getD_snoc, if_neg (by omega)]
          by_cases e : j + 1 = L.length
          · rw [if_pos e]; exact s3 j (by omega)
          · rw [if_neg e]; exact s1 j (by omega)
        · intro h3 j hj'
          rw [List.length_append, List.length_singleton] at hj'
          have hlt : j2 < j3 := by
            rcases Nat.lt_or_ge j2 j3 with h | h
            · exact h
            · have e : j3 = j2 := by have := hj3.1; omega
              have q1 := hj3.2.2.2 h3
              have q2 := hj2.2.2.2 (by omega)
              rw [e, q2] at q1
              cases q1
          rw [getD_snoc]
          by_cases e : j = L.length
          · rw [if_pos e]; exact hlt
          · rw [if_neg e]; have := s3 j (by omega); omega
      have hj23 := hj3.1
      have hj33 := hj3.2.1
      clear hj2 hj3 hinv hst
      go_wp2_with fail
      go_roundw
      case rel => exact ⟨j3, L ++ [(k, j2)], rfl, hj33, hown', Hnew, Hst, hk'⟩
      case measure => simp [intOf]; omega
    · have hge : ¬ (k : Int) < (l.length : Int) * 64 := by omega
      have hke : Hid (k = 64 * l.length) := by show _ = _; omega
      go_wp2_with fail
      go_ret
      refine ⟨_, rfl, L, hown, by have := hinv.out.1; omega, ?_, ?_, hst.out.1, hkp⟩
      · rw [← hke.out]; exact hinv.out.2.1
      · rw [← hke.out]; exact hinv.out.2.2.1
theorem cnt_or (p q : Nat → Bool) : ∀ z : List Nat, z.countP (fun i => p i && q i) + z.countP (fun i => p i || q i) = z.countP p + z.countP q
  | [] => rfl
  | x :: z => by
    have ih := cnt_or p q z
    simp only [List.countP_cons]
    cases p x <;> cases q x <;> simp <;> omega
theorem cnt_xor (p q : Nat → Bool) : ∀ z : List Nat, z.countP (fun i => p i ^^ q i) + z.countP (fun i => p i && q i) = z.countP (fun i => p i || q i)
  | [] => rfl
  | x :: z => by
    have ih := cnt_xor p q z
    simp only [List.countP_cons]
    cases p x <;> cases q x <;> simp <;> omega
theorem hs_zor {l m : List Nat} (h : l.length = m.length) (i : Nat) : hs (zw (fun x y => x ||| y) l m) i = (hs l i || hs m i) := by
  by_cases hi : i / 64 < l.length
  · unfold hs
    rw [zw_get _ h hi, Nat.testBit_or]
  · rw [hs_out (l := zw _ l m) (by rw [zw_length _ h]; omega), hs_out (l := l) (by omega), hs_out (l := m) (by omega)]; rfl
theorem hs_zxor {l m : List Nat} (h : l.length = m.length) (i : Nat) : hs (zw (fun x y => x ^^^ y) l m) i = (hs l i ^^ hs m i) := by
  by_cases hi : i / 64 < l.length
  · unfold hs
    rw [zw_get _ h hi, Nat.testBit_xor]
  · rw [hs_out (l := zw _ l m) (by rw [zw_length _ h]; omega), hs_out (l := l) (by omega), hs_out (l := m) (by omega)]; rfl
theorem sel_inv {l : List Nat} {k : Nat} (h : k < (allB l).length) : (allB l).getD k 0 < 64 * l.length ∧ hs l ((allB l).getD k 0) = true ∧ cn l ((allB l).getD k 0) = k := by
  have h1 := allB_getD h
  have hm : (allB l).getD k 0 ∈ allB l := by simp [List.getD, h]
  have h2 : hs l ((allB l).getD k 0) = true := (List.mem_filter.1 hm).2
  refine ⟨h1, h2, ?_⟩
  have e1 := allB_get h1 h2
  have e2 : (allB l)[k]? = some ((allB l).getD k 0) := by simp [List.getD, h]
  have hn : (allB l).Nodup := List.Pairwise.filter _ List.nodup_range
  exact ((List.getElem?_inj h hn).1 (e2.trans e1.symm)).symm
theorem cn_run {l : List Nat} {f : Nat} : ∀ d, (∀ p, f ≤ p → p < f + d → hs l p = true) → cn l (f + d) = cn l f + d
  | 0, _ => rfl
  | d + 1, h => by
    rw [← Nat.add_assoc, cn_succ, cn_run d (fun p h1 h2 => h p h1 (by omega)), h (f + d) (by omega) (by omega)]
    simp; omega
theorem cn_gap {l : List Nat} {f : Nat} : ∀ d, (∀ p, f ≤ p → p < f + d → hs l p = false) → cn l (f + d) = cn l f
  | 0, _ => rfl
  | d + 1, h => by
    rw [← Nat.add_assoc, cn_succ, cn_gap d (fun p h1 h2 => h p h1 (by omega)), h (f + d) (by omega) (by omega)]
    simp
/-- Where the last run ended; -1 ahead of the first. -/
def laI (L : List (Nat × Nat)) (k : Nat) : Int := if k = 0 then -1 else ((L.getD (k - 1) (0, 0)).2 : Nat)
theorem laI_succ (L : List (Nat × Nat)) (k : Nat) : laI L (k + 1) = ((L.getD k (0, 0)).2 : Nat) := by unfold laI; rw [if_neg (by omega), Nat.add_sub_cancel]
/-- What the runs weigh. -/
theorem mass {l : List Nat} {L : List (Nat × Nat)} (hc : Ch L (64 * l.length)) (hv : Cov l L (64 * l.length)) (hs' : St L) :
    (∀ q, q < L.length → (L.getD q (0, 0)).1 < (L.getD q (0, 0)).2 ∧ (L.getD q (0, 0)).2 ≤ 64 * l.length ∧ ah L q ≤ (L.getD q (0, 0)).1 ∧ laI L q < ((L.getD q (0, 0)).1 : Int) ∧ cn l (L.getD q (0, 0)).2 = cn l (L.getD q (0, 0)).1 + ((L.getD q (0, 0)).2 - (L.getD q (0, 0)).1) ∧ cn l (L.getD q (0, 0)).1 = cn l (ah L q)) ∧ cn l (ah L L.length) = cn l (64 * l.length) := by
  have inL : ∀ q, q < L.length → ∀ p, (L.getD q (0, 0)).1 ≤ p → p < (L.getD q (0, 0)).2 → hs l p = true := by
    intro q hq p h1 h2
    have := (hc q hq).2.1
    exact (hv p (by omega)).2 ⟨q, hq, h1, h2⟩
  -- the ends rise
  have mono : ∀ i j, i < j → j < L.length → (L.getD i (0, 0)).2 ≤ (L.getD j (0, 0)).1 := by
    intro i j hij
    induction j with
    | zero => omega
    | succ j ih =>
      intro hj
      have s1 := (hc j (by omega)).2.2 hj
      by_cases e : i = j
      · rw [e]; exact s1
      · have := ih (by omega) (by omega)
        have := (hc j (by omega)).1
        omega
  have gap : ∀ q, q ≤ L.length → ∀ p, ah L q ≤ p → (q < L.length → p < (L.getD q (0, 0)).1) → p < 64 * l.length → hs l p = false := by
    intro q hq p h1 h2 h3
    cases hb : hs l p
    · rfl
    · exfalso
      obtain ⟨j, j1, j2, j3⟩ := (hv p h3).1 hb
      rcases Nat.lt_or_ge j q with e | e
      · have e2 : (L.getD j (0, 0)).2 ≤ ah L q := by
          unfold ah
          rw [if_neg (by omega)]
          by_cases e3 : j = q - 1
          · rw [e3]; exact Nat.le_refl _
          · have := mono j (q - 1) (by omega) (by omega)
            have := (hc (q - 1) (by omega)).1
            omega
        omega
      · have h4 := h2 (by omega)
        by_cases e3 : j = q
        · rw [e3] at j2; omega
        · have := mono q j (by omega) j1
          have := (hc q (by omega)).1
          omega
  refine ⟨?_, ?_⟩
  · intro q hq
    obtain ⟨c1, c2, c3⟩ := hc q hq
    have a1 := ah_le hc hq
    refine ⟨c1, c2, a1, ?_, ?_, ?_⟩
    · unfold laI
      by_cases e : q = 0
      · rw [if_pos e]; omega
      · rw [if_neg e]
        have := hs' (q - 1) (by omega)
        rw [show q - 1 + 1 = q by omega] at this
        omega
    · have := cn_run (l := l) (f := (L.getD q (0, 0)).1) ((L.getD q (0, 0)).2 - (L.getD q (0, 0)).1) (fun p h1 h2 => inL q hq p h1 (by omega))
      rw [show (L.getD q (0, 0)).1 + ((L.getD q (0, 0)).2 - (L.getD q (0, 0)).1) = (L.getD q (0, 0)).2 by omega] at this
      exact this
    · have := cn_gap (l := l) (f := ah L q) ((L.getD q (0, 0)).1 - ah L q) (fun p h1 h2 => gap q (by omega) p h1 (fun _ => by omega) (by omega))
      rw [show ah L q + ((L.getD q (0, 0)).1 - ah L q) = (L.getD q (0, 0)).1 by omega] at this
      exact this
  · have hle : ah L L.length ≤ 64 * l.length := by
      unfold ah
      by_cases e : L.length = 0
      · rw [if_pos e]; omega
      · rw [if_neg e]; exact (hc (L.length - 1) (by omega)).2.1
    have := cn_gap (l := l) (f := ah L L.length) (64 * l.length - ah L L.length) (fun p h1 h2 => gap L.length (Nat.le_refl _) p h1 (fun h => by omega) (by omega))
    rw [show ah L L.length + (64 * l.length - ah L L.length) = 64 * l.length by omega] at this
    exact this.symm
end Go.Proofs.YtgmnadlmejkkpaaDoor
