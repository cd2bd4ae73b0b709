set_option linter.unusedVariables false
set_option linter.unusedSimpArgs false
namespace Go.Proofs.YtonfjmibnnioiaaDoor
/-- The end of a line. -/
def isNL (c : UInt8) : Bool := c == 10 || c == 13
/-- The first line of a text, without its end. -/
def lnT (l : List UInt8) : List UInt8 := l.takeWhile (fun c => !isNL c)
/-- How many bytes its end has. -/
def lnE (l : List UInt8) : Nat := if l.drop (lnT l).length = [] then 0 else if (l.drop (lnT l).length).take 2 = [13, 10] then 2 else 1
theorem lnT_le (l : List UInt8) : (lnT l).length ≤ l.length := (List.takeWhile_sublist _).length_le
theorem lnT_take (l : List UInt8) : lnT l = l.take (lnT l).length := by
  unfold lnT
  exact (List.prefix_iff_eq_take.1 (List.takeWhile_prefix _))
theorem lnE_le (l : List UInt8) : (lnT l).length + lnE l ≤ l.length := by
  have h := lnT_le l
  unfold lnE
  split
  · omega
  · rename_i h1
    have h2 : l.length - (lnT l).length ≠ 0 := fun e => h1 (List.eq_nil_of_length_eq_zero (by rw [List.length_drop]; exact e))
    split
    · rename_i h3
      have h4 := congrArg List.length h3
      rw [List.length_take, List.length_drop] at h4
      simp at h4
      omega
    · omega
theorem lnT_pos (l : List UInt8) (h : l ≠ []) : 1 ≤ (lnT l).length + lnE l := by
  unfold lnE
  split
  · rename_i h1
    have h2 := congrArg List.length h1
    rw [List.length_drop] at h2
    have h3 : l.length ≠ 0 := fun e => h (List.eq_nil_of_length_eq_zero e)
    simp at h2
    omega
  · split <;> omega
/-- The lines of a text that stands behind n others, at a place. -/
def rwF : Nat → Nat → Nat → List UInt8 → List (Nat × Nat × List UInt8)
  | 0, _, _, _ => []
  | f + 1, n, a, l => if l = [] then [] else (n + 1, a, lnT l) :: rwF f (n + 1) (a + ((lnT l).length + lnE l)) (l.drop ((lnT l).length + lnE l))
theorem rwF_more : ∀ (f g n a : Nat) (l : List UInt8), l.length ≤ f → l.length ≤ g → rwF f n a l = rwF g n a l
  | 0, 0, _, _, _, _, _ => rfl
  | 0, g + 1, n, a, l, h, _ => by
    have : l = [] := List.eq_nil_of_length_eq_zero (by omega)
    subst this; simp [rwF]
  | f + 1, 0, n, a, l, _, h => by
    have : l = [] := List.eq_nil_of_length_eq_zero (by omega)
    subst this; simp [rwF]
  | f + 1, g + 1, n, a, l, h, h' => by
    rw [rwF, rwF]
    by_cases e : l = []
    · rw [if_pos e, if_pos e]
    · rw [if_neg e, if_neg e]
      have h1 := lnT_pos l e
      have h2 := lnE_le l
      rw [rwF_more f g (n + 1) _ _ (by rw [List.length_drop]; omega) (by rw [List.length_drop]; omega)]
def rwA (n a : Nat) (l : List UInt8) : List (Nat × Nat × List UInt8) := rwF l.length n a l
theorem rwA_nil (n a : Nat) : rwA n a [] = [] := rfl
theorem rwA_cons (n a : Nat) (l : List UInt8) (h : l ≠ []) : rwA n a l = (n + 1, a, lnT l) :: rwA (n + 1) (a + ((lnT l).length + lnE l)) (l.drop ((lnT l).length + lnE l)) := by
  have h1 := lnT_pos l h
  have h2 := lnE_le l
  unfold rwA
  cases hl : l.length with
  | zero => exact absurd (List.eq_nil_of_length_eq_zero hl) h
  | succ k =>
    rw [rwF, if_neg h, rwF_more k _ (n + 1) _ _ (by rw [List.length_drop]; omega) (Nat.le_refl _)]
theorem rwA_len : ∀ (k n a : Nat) (l : List UInt8), l.length ≤ k → (rwA n a l).length ≤ l.length
  | 0, n, a, l, h => by
    have : l = [] := List.eq_nil_of_length_eq_zero (by omega)
    subst this; exact Nat.le_refl _
  | k + 1, n, a, l, h => by
    by_cases e : l = []
    · subst e; exact Nat.le_refl _
    · rw [rwA_cons n a l e, List.length_cons]
      have h1 := lnT_pos l e
      have h2 := lnE_le l
      have h3 := rwA_len k (n + 1) (a + ((lnT l).length + lnE l)) (l.drop ((lnT l).length + lnE l)) (by rw [List.length_drop]; omega)
      rw [List.length_drop] at h3
      omega
end Go.Proofs.YtonfjmibnnioiaaDoor
