import Derived.Test.YteonapeoeckhfaaDoorQ6
set_option linter.unusedVariables false
set_option linter.unusedSimpArgs false
namespace Go.Proofs.YteonapeoeckhfaaDoor
open Go.RowKit Go.Shelf
theorem all_take_false {α : Type} {p : α → Bool} {l : List α} {i : Nat} {b : Bool} (h : false = (b && (l.take i).all p)) : (b && l.all p) = false := by
  cases b with
  | false => rfl
  | true =>
    rw [Bool.true_and] at h ⊢
    have e : l.all p = ((l.take i).all p && (l.drop i).all p) := by rw [← List.all_append, List.take_append_drop]
    rw [e, ← h]; rfl
theorem region_keep {id : Nat} {Q : Exit → Act → World → Prop} {a : Act} {w w2 : World} {l : List Oper} (k : Keep w2 w) (hm : Tryd.prog.follows .mixedOrders = true) (hB : Region.lexB .any l.toArray = true)
    (h : wpQuiet Tryd.prog l.toArray (Keep w2) (fun a' => ∀ w', Keep w2 w' → Q .normal a' w') l a) : (Code.region id l.toArray true).wp Tryd.prog Q a w :=
  wp_region_quiet (C := Keep w2) hm hB k.drew (by simpa using h)
/-- What form refuses at once. -/
def Bd (k m nn : Nat) (E : Bool) : Bool := decide (k < 1) || decide (7 < k) || (!(decide (k = 6 ∨ k = 7)) && decide (0 < m)) || (decide (k ≠ 7) && decide (0 < nn)) || (!(decide (k = 4 ∨ k = 5)) && !E)
theorem eT_vT {t : ByteArray} (h : eT t = true) : vT t = true := by
  have h4 : ByteArray.toList { data := #[] } = [] := by rw [ByteArray.toList_eq]
  unfold eT at h
  rw [h4, ByteArray.toList_eq, beq_iff_eq] at h
  unfold vT
  rw [h]; rfl
theorem plain_bd {k : Nat} {t : ByteArray} {ns : List ByteArray} {is : List J} (h : Bd k is.length ns.length (eT t) = true) : plain (.mk k t ns is) = false := by
  rw [plain_of (j := .mk k t ns is) (k := k) rfl]
  simp only [J.t, J.ns, J.is]
  unfold Bd at h
  unfold sgl
  simp only [J.ns, J.is]
  generalize ns.length = n at *
  generalize is.length = m at *
  by_cases h1 : k = 1 ∨ k = 2 ∨ k = 3
  · rw [if_pos h1]
    simp only [Bool.or_eq_true, Bool.and_eq_true, decide_eq_true_eq, Bool.not_eq_true', decide_eq_false_iff_not] at h
    cases hE : eT t with
    | false => rfl
    | true =>
      rw [hE] at h
      simp only [Bool.true_and, Bool.and_eq_false_iff, beq_eq_false_iff_ne]
      simp only [Bool.true_eq_false, and_false, or_false] at h
      omega
  · rw [if_neg h1]
    simp only [Bool.or_eq_true, Bool.and_eq_true, decide_eq_true_eq, Bool.not_eq_true', decide_eq_false_iff_not] at h
    by_cases h4 : k = 4
    · rw [if_pos h4, Bool.and_eq_false_iff, Bool.and_eq_false_iff, beq_eq_false_iff_ne, beq_eq_false_iff_ne]
      right; omega
    · rw [if_neg h4]
      by_cases h5 : k = 5
      · rw [if_pos h5, Bool.and_eq_false_iff, Bool.and_eq_false_iff, beq_eq_false_iff_ne, beq_eq_false_iff_ne]
        right; omega
      · rw [if_neg h5]
        by_cases h6 : k = 6
        · rw [if_pos h6]
          cases hE : eT t with
          | false => rfl
          | true =>
            rw [hE] at h
            simp only [Bool.true_and, beq_eq_false_iff_ne]
            simp only [Bool.true_eq_false, and_false, or_false] at h
            omega
        · rw [if_neg h6]
          by_cases h7 : k = 7
          · rw [if_pos h7]
            cases hE : eT t with
            | false => rfl
            | true =>
              rw [hE] at h
              exfalso
              simp only [Bool.true_eq_false, and_false, or_false] at h
              omega
          · rw [if_neg h7]
theorem plain_ok {k : Nat} {t : ByteArray} {ns : List ByteArray} {is : List J} (h : Bd k is.length ns.length (eT t) = false) (h4 : k ≠ 4) (h7 : k = 7 → ns.length = is.length) :
    plain (.mk k t ns is) = (vT t && ns.all vT) := by
  rw [plain_of (j := .mk k t ns is) (k := k) rfl]
  simp only [J.t, J.ns, J.is]
  have hev := eT_vT (t := t)
  unfold Bd at h
  unfold sgl
  simp only [J.ns, J.is]
  have hnil : ns.length = 0 → ns.all vT = true := fun q => by rw [List.eq_nil_of_length_eq_zero q]; rfl
  generalize ns.length = n at *
  generalize is.length = m at *
  simp only [Bool.or_eq_false_iff, Bool.and_eq_false_iff, decide_eq_false_iff_not, decide_eq_true_eq, Bool.not_eq_false', Bool.not_eq_true'] at h
  obtain ⟨⟨⟨⟨g1, g2⟩, g3⟩, g4⟩, g5⟩ := h
  by_cases h1 : k = 1 ∨ k = 2 ∨ k = 3
  · rw [if_pos h1]
    have e : eT t = true := by rcases g5 with g5 | g5 <;> first | exact g5 | (exfalso; omega)
    have e1 : n = 0 := by omega
    have e2 : m = 0 := by omega
    rw [e, hev e, hnil e1, e1, e2]; rfl
  · rw [if_neg h1, if_neg h4]
    by_cases h5 : k = 5
    · rw [if_pos h5]
      have e1 : n = 0 := by omega
      have e2 : m = 0 := by omega
      rw [hnil e1, e1, e2]
      cases vT t <;> rfl
    · rw [if_neg h5]
      have e : eT t = true := by rcases g5 with g5 | g5 <;> first | exact g5 | (exfalso; omega)
      by_cases h6 : k = 6
      · rw [if_pos h6]
        have e1 : n = 0 := by omega
        rw [e, hev e, hnil e1, e1]; rfl
      · have h7' : k = 7 := by omega
        rw [if_neg h6, if_pos h7', e, hev e, h7 h7']
        simp
theorem plain_ne {t : ByteArray} {ns : List ByteArray} {is : List J} (h : ns.length ≠ is.length) : plain (.mk 7 t ns is) = false := by
  rw [plain_of (j := .mk 7 t ns is) (k := 7) rfl]
  simp only [J.t, J.ns, J.is]
  have : (ns.length == is.length) = false := by rw [beq_eq_false_iff_ne]; exact h
  simp [this]
theorem plain_num {t : ByteArray} {ns : List ByteArray} {is : List J} (h : Bd 4 is.length ns.length (eT t) = false) : plain (.mk 4 t ns is) = isNm t.data.toList ∧ is = [] := by
  rw [plain_of (j := .mk 4 t ns is) (k := 4) rfl]
  simp only [J.t, J.ns, J.is]
  unfold Bd at h
  simp at h
  obtain ⟨h1, h2⟩ := h
  have e1 : is = [] := by first | exact h1 | (apply List.eq_nil_of_length_eq_zero; omega)
  have e2 : ns = [] := by first | exact h2 | (apply List.eq_nil_of_length_eq_zero; omega)
  subst e1 e2
  refine ⟨?_, rfl⟩
  simp [sgl, J.ns, J.is]
end Go.Proofs.YteonapeoeckhfaaDoor
