import Derived.Test.YtonfjmibnnioiaaDoorK2
import Derived.Test.YtonfjmibnnioiaaDoorP2
set_option linter.unusedVariables false
set_option linter.unusedSimpArgs false
namespace Go.Proofs.YtonfjmibnnioiaaDoor
theorem kd_bl (c : UInt8) : (kd c = 1) ↔ blB c = true := by
  have h : ∀ n < 256, (kdN n = 1 ↔ (n = 32 ∨ n = 9)) := by decide +kernel
  have := h c.toNat (UInt8.toNat_lt c)
  unfold kd blB
  rw [this, Bool.or_eq_true, decide_eq_true_eq, decide_eq_true_eq, ← UInt8.toNat_inj, ← UInt8.toNat_inj]
  exact Iff.rfl
theorem kd_35 (c : UInt8) : (kd c = 9) ↔ c = 35 := by
  have h : ∀ n < 256, (kdN n = 9 ↔ n = 35) := by decide +kernel
  have := h c.toNat (UInt8.toNat_lt c)
  unfold kd
  rw [this, ← UInt8.toNat_inj]
  exact Iff.rfl
/-- Words are never taken back. -/
theorem ws_pre : ∀ (m a : Nat) (l : List UInt8) (acc : List Wd) (W : List Wd) (p : Nat), l.length ≤ m → ws a l acc = (W, 0, p) → ∃ V, W = acc ++ V
  | 0, a, l, acc, W, p, hl, h => by
    have : l = [] := List.eq_nil_of_length_eq_zero (by omega)
    subst this
    rw [ws_nil] at h
    cases h
    exact ⟨[], by simp⟩
  | m + 1, a, l, acc, W, p, hl, h => by
    cases l with
    | nil => rw [ws_nil] at h; cases h; exact ⟨[], by simp⟩
    | cons c r =>
      rw [ws_cons] at h
      simp only [List.length_cons] at hl
      split at h
      · exact ws_pre m _ r acc W p (by omega) h
      · split at h
        · cases h; exact ⟨[], by simp⟩
        · split at h
          · rename_i h1 h9 e n hf
            injection h with e1 e2
            injection e2 with e3 e4
            exfalso
            subst e3
            unfold fw at hf
            simp only [] at hf
            split at hf
            · cases hf
            · split at hf
              · cases hf
              · split at hf
                · split at hf
                  · cases hf
                  · split at hf <;> cases hf
                · split at hf
                  · split at hf <;> cases hf
                  · cases hf
          · rename_i k t n hf
            have h1 := fw_ok _ _ _ _ hf
            split at h
            · cases h
            · obtain ⟨V, hV⟩ := ws_pre m _ _ _ W p (by rw [List.length_drop, List.length_cons]; omega) h
              exact ⟨(k, t, a) :: V, by rw [hV]; simp⟩
/-- A text without words is one that is blank. -/
theorem ws_blank : ∀ (l : List UInt8) (a : Nat) (W : List Wd) (p : Nat), ws a l [] = (W, 0, p) → decide (W.length = 0) = bkB l
  | [], a, W, p, h => by rw [ws_nil] at h; cases h; rfl
  | c :: r, a, W, p, h => by
    rw [ws_cons] at h
    split at h
    · rename_i h1
      have ih := ws_blank r _ W p h
      rw [ih]
      have hb := (kd_bl c).1 h1
      unfold bkB
      rw [List.dropWhile_cons, if_pos hb]
    · rename_i h1
      have hb : ¬ blB c = true := fun e => h1 ((kd_bl c).2 e)
      have e : bkB (c :: r) = decide (c = 35) := by
        unfold bkB
        rw [List.dropWhile_cons, if_neg hb]
        by_cases hc : c = 35
        · subst hc; rfl
        · simp [hc]
      rw [e]
      split at h
      · rename_i h9
        cases h
        rw [decide_eq_true ((kd_35 c).1 h9)]; rfl
      · rename_i h9
        rw [decide_eq_false (fun e => h9 ((kd_35 c).2 e))]
        split at h
        · rename_i e n hf
          injection h with e1 e2
          injection e2 with e3 e4
          exfalso
          subst e3
          unfold fw at hf
          simp only [] at hf
          split at hf
          · cases hf
          · split at hf
            · cases hf
            · split at hf
              · split at hf
                · cases hf
                · split at hf <;> cases hf
              · split at hf
                · split at hf <;> cases hf
                · cases hf
        · rename_i k t n hf
          split at h
          · cases h
          · obtain ⟨V, hV⟩ := ws_pre _ _ _ _ W p (Nat.le_refl _) h
            rw [hV]
            apply decide_eq_false
            simp
/-- Lines written out, an end behind each. -/
def rwT (L : List (Nat × Nat × List UInt8)) : List UInt8 := L.flatMap fun x => x.2.2 ++ [10]
theorem lnT_end (t r : List UInt8) (h : hasNL t = false) : lnT (t ++ 10 :: r) = t := by
  unfold lnT
  unfold hasNL at h
  rw [List.any_eq_false] at h
  induction t with
  | nil => rfl
  | cons c t ih =>
    have hc : isNL c = false := by simpa using h c List.mem_cons_self
    rw [List.cons_append, List.takeWhile_cons, if_pos (by rw [hc]; rfl), ih (fun x hx => h x (List.mem_cons_of_mem _ hx))]
theorem lnE_end (t r : List UInt8) (h : hasNL t = false) : lnE (t ++ 10 :: r) = 1 := by
  unfold lnE
  rw [lnT_end t r h, List.drop_left, if_neg (by simp), if_neg (by simp)]
theorem lnT_no (l : List UInt8) : hasNL (lnT l) = false := by
  unfold hasNL
  rw [List.any_eq_false]
  intro x hx
  have := takeW_all (fun c => !isNL c) l x hx
  simpa using this
theorem rw_no : ∀ (m n a : Nat) (l : List UInt8), l.length ≤ m → ∀ x ∈ rwA n a l, hasNL x.2.2 = false
  | 0, n, a, l, hl => by
    have : l = [] := List.eq_nil_of_length_eq_zero (by omega)
    subst this
    intro x hx; rw [rwA_nil] at hx; simp at hx
  | m + 1, n, a, l, hl => by
    intro x hx
    by_cases e : l = []
    · subst e; rw [rwA_nil] at hx; simp at hx
    · rw [rwA_cons n a l e] at hx
      rcases List.mem_cons.1 hx with hx | hx
      · rw [hx]; exact lnT_no l
      · have h1 := lnT_pos l e
        exact rw_no m _ _ _ (by rw [List.length_drop]; omega) x hx
/-- Lines with an end behind each are the same lines. -/
theorem rw_again : ∀ (L : List (Nat × Nat × List UInt8)) (n a : Nat), (∀ x ∈ L, hasNL x.2.2 = false) → (rwA n a (rwT L)).map (fun x => x.2.2) = L.map (fun x => x.2.2) ∧ ∀ i, (h : i < (rwA n a (rwT L)).length) → ((rwA n a (rwT L))[i]).1 = n + i + 1
  | [], n, a, h => by
    refine ⟨rfl, fun i hi => ?_⟩
    simp [rwT, rwA_nil] at hi
  | x :: L, n, a, h => by
    have hx := h x List.mem_cons_self
    have e : rwT (x :: L) = x.2.2 ++ 10 :: rwT L := by unfold rwT; rw [List.flatMap_cons]; simp
    have hne : x.2.2 ++ 10 :: rwT L ≠ [] := by simp
    have hr : rwA n a (rwT (x :: L)) = (n + 1, a, x.2.2) :: rwA (n + 1) (a + (x.2.2.length + 1)) (rwT L) := by
      rw [e, rwA_cons n a _ hne, lnT_end _ _ hx, lnE_end _ _ hx, ← List.drop_drop, List.drop_left]
      rfl
    obtain ⟨i1, i2⟩ := rw_again L (n + 1) (a + (x.2.2.length + 1)) (fun z hz => h z (List.mem_cons_of_mem _ hz))
    rw [hr]
    refine ⟨by rw [List.map_cons, List.map_cons, i1], fun i hi => ?_⟩
    cases i with
    | zero => rfl
    | succ i =>
      have := i2 i (by simpa using hi)
      simp only [List.getElem_cons_succ]
      rw [this]; omega
/-- Where a line stands. -/
theorem rw_place : ∀ (m n a : Nat) (l : List UInt8), l.length ≤ m → ∀ i, (h : i < (rwA n a l).length) → ((rwA n a l)[i]).1 = n + i + 1 ∧ a ≤ ((rwA n a l)[i]).2.1 ∧ ((rwA n a l)[i]).2.1 - a + ((rwA n a l)[i]).2.2.length ≤ l.length ∧ (l.drop (((rwA n a l)[i]).2.1 - a)).take ((rwA n a l)[i]).2.2.length = ((rwA n a l)[i]).2.2
  | 0, n, a, l, hl => by
    have : l = [] := List.eq_nil_of_length_eq_zero (by omega)
    subst this
    intro i hi; rw [rwA_nil] at hi; simp at hi
  | m + 1, n, a, l, hl => by
    intro i hi
    by_cases e : l = []
    · subst e; rw [rwA_nil] at hi; simp at hi
    · have hr := rwA_cons n a l e
      have h1 := lnT_pos l e
      have h2 := lnE_le l
      have h3 := lnT_take l
      revert hi
      rw [hr]
      intro hi
      cases i with
      | zero =>
        simp only [List.getElem_cons_zero]
        refine ⟨trivial, Nat.le_refl _, by show a - a + (lnT l).length ≤ l.length; omega, ?_⟩
        rw [Nat.sub_self, List.drop_zero]; exact h3.symm
      | succ i =>
        obtain ⟨j1, j2, j3, j4⟩ := rw_place m (n + 1) (a + ((lnT l).length + lnE l)) (l.drop ((lnT l).length + lnE l)) (by rw [List.length_drop]; omega) i (by simpa using hi)
        simp only [List.getElem_cons_succ]
        rw [List.length_drop] at j3
        rw [List.drop_drop] at j4
        generalize (rwA (n + 1) (a + ((lnT l).length + lnE l)) (l.drop ((lnT l).length + lnE l)))[i]'(by simpa using hi) = x at j1 j2 j3 j4 ⊢
        refine ⟨by omega, by omega, by omega, ?_⟩
        rw [show (lnT l).length + lnE l + (x.2.1 - (a + ((lnT l).length + lnE l))) = x.2.1 - a by omega] at j4
        exact j4
end Go.Proofs.YtonfjmibnnioiaaDoor
