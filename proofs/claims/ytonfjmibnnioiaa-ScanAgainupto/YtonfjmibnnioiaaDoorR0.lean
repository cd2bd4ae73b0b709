import Derived.Test.YtonfjmibnnioiaaDoorW2
set_option linter.unusedVariables false
set_option linter.unusedSimpArgs false
namespace Go.Proofs.YtonfjmibnnioiaaDoor
theorem ws_le : ∀ (k a : Nat) (l : List UInt8) (acc : List Wd), l.length ≤ k → (ws a l acc).1.length ≤ acc.length + l.length
  | 0, a, l, acc, h => by
    have : l = [] := List.eq_nil_of_length_eq_zero (by omega)
    subst this; rw [ws_nil]; simp
  | k + 1, a, l, acc, h => by
    cases l with
    | nil => rw [ws_nil]; simp
    | cons c r =>
      rw [ws_cons]
      simp only [List.length_cons] at h ⊢
      split
      · have := ws_le k (a + 1) r acc (by omega); omega
      · split
        · simp only []; omega
        · split
          · simp
          · rename_i kk t n hf
            have h1 := fw_ok _ _ _ _ hf
            split
            · simp
            · have := ws_le k (a + n) ((c :: r).drop n) (acc ++ [(kk, t, a)]) (by rw [List.length_drop, List.length_cons]; omega)
              rw [List.length_append, List.length_singleton, List.length_drop, List.length_cons] at this
              omega
theorem ws_len (l : List UInt8) : (ws 0 l []).1.length ≤ l.length := by
  have := ws_le l.length 0 l [] (Nat.le_refl _)
  simpa using this
theorem fd_le : ∀ (k a : Nat) (l : List UInt8) (y : UInt8) (acc : List (List UInt8)), l.length ≤ k → (fd a l y acc).1.length ≤ acc.length + l.length + 1
  | 0, a, l, y, acc, h => by
    have : l = [] := List.eq_nil_of_length_eq_zero (by omega)
    subst this
    rw [fd_step]
    split
    · simp
    · simp
  | k + 1, a, l, y, acc, h => by
    rw [fd_step]
    split
    · simp
    · cases hd : l.drop (ff l y).2.1 with
      | nil => simp only [List.length_append, List.length_singleton]; omega
      | cons c r =>
        have h1 := congrArg List.length hd
        rw [List.length_drop, List.length_cons] at h1
        simp only []
        split
        · simp
        · have := fd_le k (a + (ff l y).2.1 + 1) r y (acc ++ [(ff l y).1]) (by omega)
          rw [List.length_append, List.length_singleton] at this
          omega
theorem fdR_len (l : List UInt8) (y : UInt8) : (fdR l y).1.length ≤ l.length + 1 := by
  unfold fdR
  split
  · have := fd_le l.length 0 l y [] (Nat.le_refl _)
    simpa using this
  · simp
end Go.Proofs.YtonfjmibnnioiaaDoor
