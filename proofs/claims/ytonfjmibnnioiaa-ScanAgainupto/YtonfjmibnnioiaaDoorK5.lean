import Derived.Test.YtonfjmibnnioiaaDoorK4
import Derived.Test.YtonfjmibnnioiaaDoorX4
set_option linter.unusedVariables false
set_option linter.unusedSimpArgs false
namespace Go.Proofs.YtonfjmibnnioiaaDoor
theorem rwT_cons (x : Nat × Nat × List UInt8) (L : List (Nat × Nat × List UInt8)) : rwT (x :: L) = x.2.2 ++ 10 :: rwT L := by unfold rwT; rw [List.flatMap_cons]; simp
theorem rw_sum : ∀ (m n a : Nat) (l : List UInt8), l.length ≤ m → (rwT (rwA n a l)).length ≤ 2 * l.length
  | 0, n, a, l, hl => by
    have : l = [] := List.eq_nil_of_length_eq_zero (by omega)
    subst this
    rw [rwA_nil]; simp [rwT]
  | m + 1, n, a, l, hl => by
    by_cases e : l = []
    · subst e; rw [rwA_nil]; simp [rwT]
    · have h1 := lnT_pos l e
      have h2 := lnE_le l
      rw [rwA_cons n a l e, rwT_cons, List.length_append, List.length_cons]
      have := rw_sum m (n + 1) (a + ((lnT l).length + lnE l)) (l.drop ((lnT l).length + lnE l)) (by rw [List.length_drop]; omega)
      rw [List.length_drop] at this
      simp only [] at this ⊢
      omega
theorem rwT_next (L : List (Nat × Nat × List UInt8)) (i : Nat) (h : i < L.length) : rwT (L.take (i + 1)) = rwT (L.take i) ++ ((L.getD i r00).2.2 ++ [10]) := by
  unfold rwT
  rw [List.take_add_one, List.getElem?_eq_getElem h, List.flatMap_append]
  simp [List.getD, h]
theorem rwT_le (L : List (Nat × Nat × List UInt8)) (i : Nat) : (rwT (L.take i)).length ≤ (rwT L).length := by
  have := congrArg (fun l => (rwT l).length) (List.take_append_drop i L)
  simp only [rwT, List.flatMap_append, List.length_append] at this ⊢
  omega
/-- All that is asked of the lines of a text, and of the lines written out again. -/
theorem rw_facts (l : List UInt8) (L M : List (Nat × Nat × List UInt8)) (hL : rwA 0 0 l = L) (hM : rwA 0 0 (rwT L) = M) : M.length = L.length ∧ ∀ j < L.length, (M.getD j r00).2.2 = (L.getD j r00).2.2 ∧ (M.getD j r00).1 = j + 1 ∧ (L.getD j r00).1 = j + 1 ∧ (L.getD j r00).2.1 + (L.getD j r00).2.2.length ≤ l.length ∧ (l.drop (L.getD j r00).2.1).take (L.getD j r00).2.2.length = (L.getD j r00).2.2 := by
  have hno := rw_no l.length 0 0 l (Nat.le_refl _)
  rw [hL] at hno
  obtain ⟨i1, i2⟩ := rw_again L 0 0 hno
  have hp := rw_place l.length 0 0 l (Nat.le_refl _)
  rw [hM] at i1
  have hlen : M.length = L.length := by have := congrArg List.length i1; rw [List.length_map, List.length_map] at this; exact this
  refine ⟨hlen, fun j hj => ?_⟩
  have hjM : j < M.length := by omega
  have e1 : (M.getD j r00) = M[j] := by simp [List.getD, hjM]
  have e2 : (L.getD j r00) = L[j] := by simp [List.getD, hj]
  rw [e1, e2]
  have h1 : (M[j]).2.2 = (L[j]).2.2 := by
    have := congrArg (fun l => l[j]?) i1
    simp only [List.getElem?_map] at this
    rw [List.getElem?_eq_getElem hj, List.getElem?_eq_getElem hjM] at this
    simpa using this
  have h2 : (M[j]).1 = j + 1 := by
    subst hM
    have := i2 j hjM
    omega
  subst hL
  obtain ⟨p1, p2, p3, p4⟩ := hp j hj
  rw [Nat.sub_zero] at p3 p4
  exact ⟨h1, h2, by omega, p3, p4⟩
end Go.Proofs.YtonfjmibnnioiaaDoor
