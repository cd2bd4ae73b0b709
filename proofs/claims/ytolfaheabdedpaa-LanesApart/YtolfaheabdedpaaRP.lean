import Derived.Test.YtolfaheabdedpaaPK
set_option linter.unusedVariables false
set_option linter.unusedSimpArgs false
namespace Go.Proofs.Ytolfaheabdedpaa
open Go.RowKit Go.Shelf
attribute [local go_sem] run_store_float
/-- A row of n lanes with memory of its own. -/
def OwnL (B : Nat) (w : World) (v : Value) (n : Nat) (l : List Nat) : Prop := w.ownsRow B 35 8 v n (UF l)
theorem OwnL.nil (B : Nat) (w : World) : OwnL B w (.slice none 0 0) 0 [] := ⟨rfl, .inl ⟨rfl, rfl⟩⟩
theorem OwnL.itm {B : Nat} {w : World} {v : Value} {n : Nat} {l : List Nat} (h : OwnL B w v n l) (hl : n * 8 = l.length) : ∃ a c, v = .slice a n c ∧ Itm 8 35 B w (a, n, c) l := by
  rcases h.2 with ⟨h1, h2⟩ | ⟨g, cap, cur, hv, hg, hh, h1, h2, h3, h4⟩
  · subst h2
    refine ⟨none, 0, by rw [h1], ⟨hl, Nat.le_refl _, by intro j hj; omega, by intro p hp; cases hp⟩⟩
  · refine ⟨some ⟨g, 0, none⟩, cap, hv, ⟨hl, h1, ?_, ?_⟩⟩
    · intro j hj
      refine ⟨g, 0, rfl, ?_⟩
      have e1 : cur.toList[j]? = (UF l)[j]? := by rw [← h4, List.getElem?_take, if_pos (by omega)]
      rw [Nat.zero_add, cell_of_row w g _ cur 35 (0, 0) hh, ← UF_get l j hj, ← e1]; simp
    · intro p hp
      simp only [Option.some.injEq] at hp
      subst hp
      exact ⟨hg, cur, hh⟩
theorem UF_append (a b : List Nat) : UF (a ++ b) = UF a ++ UF b := by simp [UF]
theorem wpList_appL (B : Nat) (w : World) {ops : Array Oper} {rest : List Oper} {o : Oper} {a : Act} {Q : Exit → Act → World → Prop} (hgd : o.guard = none) (s x : Operand)
    (hop : o.op = .call { callee := .builtin .append, args := #[s, x], argTypes := #[51, 51] }) (n : Nat) (l : List Nat) (y : List Nat) (hy : y.length = 8) (v : Value) (hs : a.eval s = v) (hown : OwnL B w v n l) (hB : B ≤ w.heap.size) (g c : Nat) (hx : a.eval x = .slice (some ⟨g, 0, none⟩) 1 c)
    (hnews : RowF 35 w g y) (hlen : n + 1 ≤ 65536)
    (hK : ∀ v' w', OwnL B w' v' (n + 1) (l ++ y) → w.grownBy w' v.ownBlock → wpList Try.prog ops Q rest (a.put o.dst v') w') :
    wpList Try.prog ops Q (o :: rest) a w := by
  refine wpList_plain hgd fun K hK' => ?_
  obtain ⟨i0, hi, hz0, hz1, hz2⟩ := info_parts i35
  obtain ⟨v', w', hr, h2, h3, -⟩ := run_append_own (P := Try.prog) w B 51 o.type 35 i0 _ 8 64 Try.underlying51 hi hz0 hz1 hz2 rfl (by decide) v _ _ hown ⟨g, 0, none⟩ 1 c (UF y) (by rw [UF_length, hy]) (by
    intro j u hj
    have hjl : j < y.length := by have := (List.getElem?_eq_some_iff.1 hj).1; simpa [UF_length] using this
    rw [UF_get y j hjl] at hj
    rw [Addr.add_lit, Nat.zero_add, hnews.cell j hjl, hj]) (UF_one y) (by simp only [maxLen]; omega) (by omega) hB
  unfold Oper.wp
  simp [execOp, hop, resolve, invoke, builtin, hs, hx, hr, Result.andThen]
  exact hK' _ _ (hK v' w' (by unfold OwnL; rw [UF_append]; exact h2) h3)
theorem tab_snoc8 (n : Nat) (F : Nat → Nat) (X : Nat → Nat) (hX : ∀ i, i < 8 → X i = F (n * 8 + i)) : tab (n * 8) F ++ xsK X 8 = tab ((n + 1) * 8) F := by
  apply List.ext_getElem
  · simp [tab, xsK]; omega
  · intro i h1 h2
    simp only [tab, List.length_map, List.length_range] at h2
    rw [List.getElem_append]
    by_cases h : i < n * 8
    · rw [dif_pos (by rw [tab_len]; exact h)]
      simp [tab]
    · rw [dif_neg (by rw [tab_len]; exact h)]
      have h8 : i - n * 8 < 8 := by omega
      simp only [xsK, tab, List.getElem_map, List.getElem_range, List.length_map, List.length_range]
      rw [if_pos h8, hX _ h8]
      congr 1; omega
theorem pkC_row (V : List (List Nat)) (j f i : Nat) (hi : i < 8) : pkC V j (f * 8 + i) = (V.getD (min (8 * j + i) (V.length - 1)) []).getD f 0 := by
  unfold pkC
  have e1 : (f * 8 + i) % 8 = i := by omega
  have e2 : (f * 8 + i) / 8 = f := by omega
  rw [e1, e2]
end Go.Proofs.Ytolfaheabdedpaa
