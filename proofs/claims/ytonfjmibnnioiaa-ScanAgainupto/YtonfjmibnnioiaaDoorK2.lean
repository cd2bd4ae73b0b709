import Derived.Test.YtonfjmibnnioiaaDoorK1
set_option linter.unusedVariables false
set_option linter.unusedSimpArgs false
namespace Go.Proofs.YtonfjmibnnioiaaDoor
/-- A word as it is written out. -/
def wr1 (k : Nat) (t : List UInt8) : List UInt8 := if k = 3 then qt t else t
/-- What stands behind a word: nothing, or a blank. -/
def Gap (X : List UInt8) : Prop := X = [] ∨ ∃ r, X = 32 :: r
theorem takeP (p : UInt8 → Bool) (t X : List UInt8) (ht : ∀ x ∈ t, p x = true) (hX : Gap X) (h32 : p 32 = false) : (t ++ X).takeWhile p = t := by
  induction t with
  | nil =>
    rcases hX with rfl | ⟨r, rfl⟩
    · rfl
    · rw [List.nil_append, List.takeWhile_cons, if_neg (by rw [h32]; decide)]
  | cons c t ih =>
    rw [List.cons_append, List.takeWhile_cons, if_pos (ht c List.mem_cons_self), ih (fun x hx => ht x (List.mem_cons_of_mem _ hx))]
theorem takeW_all (p : UInt8 → Bool) (l : List UInt8) : ∀ x ∈ l.takeWhile p, p x = true := by
  induction l with
  | nil => intro x hx; simp at hx
  | cons c l ih =>
    intro x hx
    rw [List.takeWhile_cons] at hx
    split at hx
    · rename_i h
      rcases List.mem_cons.1 hx with e | e
      · rw [e]; exact h
      · exact ih x e
    · simp at hx
theorem fw_qt2 (l X : List UInt8) : fw (qt l ++ X) = .ok 3 l (qt l).length := by
  have hu := uq_all l X [] 1
  have e : qt l ++ X = 34 :: (l.flatMap qc ++ 34 :: X) := by unfold qt; simp
  rw [e]
  unfold fw
  simp only []
  have k34 : kd 34 = 8 := by decide
  rw [if_neg (by rw [k34]; decide), if_neg (by rw [k34]; decide), if_neg (by rw [k34]; decide), if_pos k34, hu]
  unfold qt
  simp
  omega
/-- A word that was read is read again where it is written out. -/
def Wk (k : Nat) (t : List UInt8) : Prop := (∀ X, Gap X → fw (wr1 k t ++ X) = .ok k t (wr1 k t).length) ∧ ∃ c r, wr1 k t = c :: r ∧ kd c ≠ 1 ∧ kd c ≠ 9
theorem fw_again (l : List UInt8) (k : Nat) (t : List UInt8) (n : Nat) (h : fw l = .ok k t n) : Wk k t := by
  have k32 : kd 32 = 1 := by decide
  unfold fw at h
  cases l with
  | nil => cases h
  | cons c r =>
    simp only [] at h
    split at h
    · rename_i h1
      injection h with e1 e2 e3
      have h2 : inNm (kd c) = true := by rw [h1]; rfl
      rw [List.takeWhile_cons, if_pos h2] at e2
      subst e1
      have ht : ∀ x ∈ t, inNm (kd x) = true := by
        rw [← e2]
        intro x hx
        rcases List.mem_cons.1 hx with e | e
        · rw [e]; exact h2
        · exact takeW_all (fun x => inNm (kd x)) r x e
      have hw : wr1 1 t = t := by unfold wr1; rw [if_neg (by decide)]
      refine ⟨fun X hX => ?_, c, _, by rw [hw, ← e2], by omega, by omega⟩
      rw [hw]
      have hT := takeP (fun x => inNm (kd x)) t X ht hX (by rw [k32]; rfl)
      rw [← e2] at hT ⊢
      rw [List.cons_append] at hT ⊢
      unfold fw
      simp only []
      rw [if_pos h1, hT]
    · rename_i h1
      split at h
      · rename_i h3
        injection h with e1 e2 e3
        have h2 : inNu (kd c) = true := by rcases h3 with h3 | h3 | h3 <;> (rw [h3]; rfl)
        rw [List.takeWhile_cons, if_pos h2] at e2
        subst e1
        have ht : ∀ x ∈ t, inNu (kd x) = true := by
          rw [← e2]
          intro x hx
          rcases List.mem_cons.1 hx with e | e
          · rw [e]; exact h2
          · exact takeW_all (fun x => inNu (kd x)) r x e
        have hw : wr1 2 t = t := by unfold wr1; rw [if_neg (by decide)]
        refine ⟨fun X hX => ?_, c, _, by rw [hw, ← e2], by omega, by omega⟩
        rw [hw]
        have hT := takeP (fun x => inNu (kd x)) t X ht hX (by rw [k32]; rfl)
        rw [← e2] at hT ⊢
        rw [List.cons_append] at hT ⊢
        unfold fw
        simp only []
        rw [if_neg h1, if_pos h3, hT]
      · rename_i h3
        split at h
        · rename_i h4
          split at h
          · rename_i h5
            injection h with e1 e2 e3
            subst e1
            have hw : wr1 4 t = t := by unfold wr1; rw [if_neg (by decide)]
            cases r with
            | nil => simp at h5
            | cons d r =>
              have hd : d = 61 := by simpa using h5.2
              have et : t = [c, d] := by rw [← e2]; rfl
              refine ⟨fun X hX => ?_, c, [d], by rw [hw, et], by omega, by omega⟩
              rw [hw, et]
              show fw (c :: d :: X) = _
              unfold fw
              simp only []
              rw [if_neg h1, if_neg h3, if_pos h4, if_pos ⟨h5.1, by rw [hd]; rfl⟩]
              rfl
          · split at h
            · cases h
            · rename_i h6
              injection h with e1 e2 e3
              subst e1
              have hw : wr1 4 t = t := by unfold wr1; rw [if_neg (by decide)]
              refine ⟨fun X hX => ?_, c, [], by rw [hw, ← e2], by omega, by omega⟩
              rw [hw, ← e2]
              show fw (c :: X) = _
              unfold fw
              simp only []
              rw [if_neg h1, if_neg h3, if_pos h4, if_neg ?_, if_neg h6]
              · rfl
              · intro hh
                rcases hX with rfl | ⟨r', rfl⟩
                · simp at hh
                · simp at hh
        · split at h
          · rename_i h4 h5
            split at h
            · rename_i t' n' hq
              injection h with e1 e2 e3
              subst e1
              have hw : wr1 3 t = qt t := by unfold wr1; rw [if_pos rfl]
              refine ⟨fun X hX => by rw [hw]; exact fw_qt2 t X, 34, _, by rw [hw]; rfl, by decide, by decide⟩
            · cases h
          · cases h
/-- Words that were read. -/
def WkL (W : List Wd) : Prop := ∀ x ∈ W, Wk x.1 x.2.1 ∧ x.2.1.length ≤ 65536
theorem ws_words : ∀ (m a : Nat) (l : List UInt8) (acc : List Wd) (W : List Wd) (p : Nat), l.length ≤ m → WkL acc → ws a l acc = (W, 0, p) → WkL W
  | 0, a, l, acc, W, p, hl, hacc, h => by
    have : l = [] := List.eq_nil_of_length_eq_zero (by omega)
    subst this
    rw [ws_nil] at h
    cases h
    exact hacc
  | m + 1, a, l, acc, W, p, hl, hacc, h => by
    cases l with
    | nil => rw [ws_nil] at h; cases h; exact hacc
    | cons c r =>
      rw [ws_cons] at h
      simp only [List.length_cons] at hl
      split at h
      · exact ws_words m _ r acc W p (by omega) hacc h
      · split at h
        · cases h; exact hacc
        · split at h
          · rename_i e n hf
            injection h with e1 e2
            injection e2 with e3 e4
            intro x hx
            rw [← e1] at hx
            simp at hx
          · rename_i k t n hf
            have h1 := fw_ok _ _ _ _ hf
            split at h
            · cases h
            · rename_i h65
              refine ws_words m _ _ _ W p (by rw [List.length_drop, List.length_cons]; omega) ?_ h
              intro x hx
              rcases List.mem_append.1 hx with hx | hx
              · exact hacc x hx
              · rw [List.mem_singleton] at hx
                subst hx
                exact ⟨fw_again _ _ _ _ hf, by simp only []; omega⟩
/-- Words written out one by one, a blank ahead of each. -/
def wrL (W : List Wd) : List UInt8 := W.flatMap fun x => 32 :: wr1 x.1 x.2.1
theorem wrL_gap (W : List Wd) : Gap (wrL W) := by
  cases W with
  | nil => exact .inl rfl
  | cons x W => exact .inr ⟨wr1 x.1 x.2.1 ++ wrL W, by unfold wrL; rw [List.flatMap_cons]; rfl⟩
theorem ws_again : ∀ (W : List Wd) (a : Nat) (acc : List Wd), WkL W → ∃ V, ws a (wrL W) acc = (acc ++ V, 0, 0) ∧ V.map (fun x => (x.1, x.2.1)) = W.map (fun x => (x.1, x.2.1))
  | [], a, acc, h => ⟨[], by rw [show wrL [] = [] from rfl, ws_nil, List.append_nil], rfl⟩
  | x :: W, a, acc, h => by
    obtain ⟨⟨hx, c, r, hc, h1, h9⟩, h65⟩ := h x List.mem_cons_self
    have e : wrL (x :: W) = 32 :: (wr1 x.1 x.2.1 ++ wrL W) := by unfold wrL; rw [List.flatMap_cons]; rfl
    have hf := hx (wrL W) (wrL_gap W)
    obtain ⟨V, hV, hm⟩ := ws_again W (a + 1 + (wr1 x.1 x.2.1).length) (acc ++ [(x.1, x.2.1, a + 1)]) (fun z hz => h z (List.mem_cons_of_mem _ hz))
    refine ⟨(x.1, x.2.1, a + 1) :: V, ?_, by rw [List.map_cons, List.map_cons, hm]⟩
    rw [e, ws_cons, if_pos (by decide)]
    rw [hc] at hf hV ⊢
    rw [List.cons_append] at hf ⊢
    rw [ws_cons, if_neg h1, if_neg h9, hf]
    simp only []
    rw [if_neg (by omega), ← List.cons_append, List.drop_left, hV, List.append_assoc]
    rfl
end Go.Proofs.YtonfjmibnnioiaaDoor
