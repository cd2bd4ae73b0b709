import Derived.Test.YtonfjmibnnioiaaDoorK3
import Derived.Test.YtonfjmibnnioiaaDoorV3
set_option linter.unusedVariables false
set_option linter.unusedSimpArgs false
namespace Go.Proofs.YtonfjmibnnioiaaDoor
theorem uq_n : ∀ (k : Nat) (l acc : List UInt8) (n : Nat), l.length ≤ k → (uq l acc n).2.2 = true → (uq l acc n).1.length + n + 1 ≤ acc.length + (uq l acc n).2.1
  | 0, l, acc, n, h, ht => by
    have : l = [] := List.eq_nil_of_length_eq_zero (by omega)
    subst this; rw [uq_nil] at ht; cases ht
  | k + 1, l, acc, n, h, ht => by
    cases l with
    | nil => rw [uq_nil] at ht; cases ht
    | cons c r =>
      rw [uq_cons] at ht ⊢
      simp only [List.length_cons] at h
      split
      · simp only []; omega
      · rename_i h34
        rw [if_neg h34] at ht
        split
        · rename_i h92
          rw [if_pos h92] at ht
          split
          · rename_i hn
            rw [hn] at ht
            cases ht
          · rename_i x hx
            rw [hx] at ht
            have h1 := esc_two r x hx
            have ih := uq_n k ((c :: r).drop (esc r).2) (acc ++ [x]) (n + (esc r).2) (by rw [List.length_drop, List.length_cons]; omega) ht
            rw [List.length_append, List.length_singleton] at ih
            omega
        · rename_i h92
          rw [if_neg h92] at ht
          split
          · rename_i h32
            rw [if_pos h32] at ht
            cases ht
          · rename_i h32
            rw [if_neg h32] at ht
            have ih := uq_n k r (acc ++ [c]) (n + 1) (by omega) ht
            rw [List.length_append, List.length_singleton] at ih
            omega
theorem fw_n (l : List UInt8) (k : Nat) (t : List UInt8) (n : Nat) (h : fw l = .ok k t n) : t.length ≤ n := by
  unfold fw at h
  cases l with
  | nil => cases h
  | cons c r =>
    simp only [] at h
    split at h
    · cases h; exact Nat.le_refl _
    · split at h
      · cases h; exact Nat.le_refl _
      · split at h
        · split at h
          · cases h; exact List.length_take_le 2 _
          · split at h
            · cases h
            · cases h; simp
        · split at h
          · have hu := uq_n r.length r [] 1 (Nat.le_refl _)
            split at h
            · rename_i t' n' hq
              cases h
              rw [hq] at hu
              have := hu rfl
              simp only [List.length_nil] at this
              omega
            · cases h
          · cases h
/-- How much the words' texts hold. -/
def tsum (W : List Wd) : Nat := (W.map fun x => x.2.1.length).sum
theorem ws_sum : ∀ (m a : Nat) (l : List UInt8) (acc : List Wd) (W : List Wd) (p : Nat), l.length ≤ m → ws a l acc = (W, 0, p) → tsum W + W.length ≤ tsum acc + acc.length + 2 * l.length
  | 0, a, l, acc, W, p, hl, h => by
    have : l = [] := List.eq_nil_of_length_eq_zero (by omega)
    subst this
    rw [ws_nil] at h
    cases h
    omega
  | m + 1, a, l, acc, W, p, hl, h => by
    cases l with
    | nil => rw [ws_nil] at h; cases h; omega
    | cons c r =>
      rw [ws_cons] at h
      simp only [List.length_cons] at hl ⊢
      split at h
      · have := ws_sum m _ r acc W p (by omega) h; omega
      · split at h
        · cases h; omega
        · split at h
          · rename_i h1 h9 e n hf
            injection h with e1 e2
            rw [← e1]
            simp [tsum]
          · rename_i k t n hf
            have h1 := fw_ok _ _ _ _ hf
            have h2 := fw_n _ _ _ _ hf
            split at h
            · cases h
            · have := ws_sum m _ _ _ W p (by rw [List.length_drop, List.length_cons]; omega) h
              rw [List.length_drop, List.length_cons] at this
              simp only [tsum, List.map_append, List.sum_append, List.length_append, List.map_cons, List.map_nil, List.sum_cons, List.sum_nil, List.length_singleton] at this ⊢
              simp only [List.length_cons] at h1
              omega
theorem tsum_take (W : List Wd) (i : Nat) : tsum (W.take i) ≤ tsum W := by
  have := congrArg tsum (List.take_append_drop i W)
  simp only [tsum, List.map_append, List.sum_append] at this ⊢
  omega
theorem cat_mk (a b : List UInt8) : (ByteArray.mk a.toArray ++ ByteArray.mk b.toArray : ByteArray) = ⟨(a ++ b).toArray⟩ := by
  apply ByteArray.ext
  rw [ByteArray.data_append]
  simp
theorem wr1_len (k : Nat) (t : List UInt8) : (wr1 k t).length ≤ 4 * t.length + 2 := by
  unfold wr1
  split
  · unfold qt; have := qc_len t; simp only [List.length_cons, List.length_append, List.length_nil]; omega
  · omega
theorem wrL_len : ∀ W : List Wd, (wrL W).length ≤ 4 * tsum W + 3 * W.length
  | [] => by simp [wrL]
  | x :: W => by
    have ih := wrL_len W
    have h1 := wr1_len x.1 x.2.1
    have e : wrL (x :: W) = 32 :: (wr1 x.1 x.2.1 ++ wrL W) := by unfold wrL; rw [List.flatMap_cons]; rfl
    rw [e, List.length_cons, List.length_append]
    simp only [tsum, List.map_cons, List.sum_cons, List.length_cons] at ih ⊢
    omega
theorem wrL_next (W : List Wd) (i : Nat) (h : i < W.length) : wrL (W.take (i + 1)) = wrL (W.take i) ++ (32 :: wr1 (W.getD i w00).1 (W.getD i w00).2.1) := by
  unfold wrL
  rw [List.take_add_one, List.getElem?_eq_getElem h, List.flatMap_append]
  simp [List.getD, h]
end Go.Proofs.YtonfjmibnnioiaaDoor
