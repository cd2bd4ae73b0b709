import Derived.Test.YtonfjmibnnioiaaDoorX3
import Derived.Deep.CutBlock
import Derived.Deep.CutRange
set_option linter.unusedVariables false
set_option linter.unusedSimpArgs false
namespace Go.Proofs.YtonfjmibnnioiaaDoor
open Go.RowKit Go.Shelf
/-- What the bytes behind a first one must be. -/
def wP (l : List UInt8) (i lo hi j : Nat) : Bool := decide ((if j = 1 then lo else 128) ≤ (l.getD (i + j) 0).toNat) && decide ((l.getD (i + j) 0).toNat ≤ (if j = 1 then hi else 191))
/-- The width that a first byte asks for, and between what its second one lies. -/
def wC (c : Nat) : Nat × Nat × Nat :=
  if 194 ≤ c ∧ c ≤ 223 then (2, 128, 191) else if c = 224 then (3, 160, 191) else if c = 237 then (3, 128, 159) else if 225 ≤ c ∧ c ≤ 239 then (3, 128, 191)
  else if c = 240 then (4, 144, 191) else if c = 244 then (4, 128, 143) else if 241 ≤ c ∧ c ≤ 243 then (4, 128, 191) else (0, 128, 191)
def wA (l : List UInt8) (i n lo hi k : Nat) : Bool := (List.range n).all fun j => decide (j < k) || wP l i lo hi j
def wdG (l : List UInt8) (i n lo hi : Nat) : Nat := if l.length < i + n then 0 else if wA l i n lo hi 1 = true then n else 0
def wdF (l : List UInt8) (i : Nat) : Nat := if (l.getD i 0).toNat < 128 then 1 else wdG l i (wC (l.getD i 0).toNat).1 (wC (l.getD i 0).toNat).2.1 (wC (l.getD i 0).toNat).2.2
theorem wA_step (l : List UInt8) (i n lo hi k : Nat) (h : k < n) : wA l i n lo hi k = (wP l i lo hi k && wA l i n lo hi (k + 1)) := by
  unfold wA
  rw [Bool.eq_iff_iff]
  simp only [Bool.and_eq_true, List.all_eq_true, List.mem_range, Bool.or_eq_true, decide_eq_true_eq]
  constructor
  · intro ha
    refine ⟨(ha k h).resolve_left (by omega), fun j hj => ?_⟩
    rcases ha j hj with h1 | h1
    · exact .inl (by omega)
    · exact .inr h1
  · rintro ⟨h1, h2⟩ j hj
    rcases h2 j hj with h3 | h3
    · by_cases e : j = k
      · exact .inr (e ▸ h1)
      · exact .inl (by omega)
    · exact .inr h3
theorem wA_end (l : List UInt8) (i n lo hi k : Nat) (h : n ≤ k) : wA l i n lo hi k = true := by
  unfold wA
  rw [List.all_eq_true]
  intro j hj
  rw [List.mem_range] at hj
  simp; exact .inl (by omega)
theorem wC_all (c : Nat) (h2 : c < 256) (h : 128 ≤ c) : (wC c = (0, 128, 191) ∧ (c < 194 ∨ 244 < c)) ∨ (wC c = (2, 128, 191) ∧ 194 ≤ c ∧ c < 224) ∨ (wC c = (3, 160, 191) ∧ c = 224) ∨ (wC c = (3, 128, 159) ∧ c = 237) ∨ (wC c = (3, 128, 191) ∧ ((225 ≤ c ∧ c < 237) ∨ (238 ≤ c ∧ c < 240))) ∨ (wC c = (4, 144, 191) ∧ c = 240) ∨ (wC c = (4, 128, 143) ∧ c = 244) ∨ (wC c = (4, 128, 191) ∧ 241 ≤ c ∧ c < 244) := by
  by_cases a1 : 194 ≤ c ∧ c ≤ 223
  · exact .inr (.inl ⟨by unfold wC; rw [if_pos a1], a1.1, by omega⟩)
  · by_cases a2 : c = 224
    · exact .inr (.inr (.inl ⟨by unfold wC; rw [if_neg a1, if_pos a2], a2⟩))
    · by_cases a3 : c = 237
      · exact .inr (.inr (.inr (.inl ⟨by unfold wC; rw [if_neg a1, if_neg a2, if_pos a3], a3⟩)))
      · by_cases a4 : 225 ≤ c ∧ c ≤ 239
        · exact .inr (.inr (.inr (.inr (.inl ⟨by unfold wC; rw [if_neg a1, if_neg a2, if_neg a3, if_pos a4], by omega⟩))))
        · by_cases a5 : c = 240
          · exact .inr (.inr (.inr (.inr (.inr (.inl ⟨by unfold wC; rw [if_neg a1, if_neg a2, if_neg a3, if_neg a4, if_pos a5], a5⟩)))))
          · by_cases a6 : c = 244
            · exact .inr (.inr (.inr (.inr (.inr (.inr (.inl ⟨by unfold wC; rw [if_neg a1, if_neg a2, if_neg a3, if_neg a4, if_neg a5, if_pos a6], a6⟩))))))
            · by_cases a7 : 241 ≤ c ∧ c ≤ 243
              · exact .inr (.inr (.inr (.inr (.inr (.inr (.inr ⟨by unfold wC; rw [if_neg a1, if_neg a2, if_neg a3, if_neg a4, if_neg a5, if_neg a6, if_pos a7], a7.1, by omega⟩))))))
              · exact .inl ⟨by unfold wC; rw [if_neg a1, if_neg a2, if_neg a3, if_neg a4, if_neg a5, if_neg a6, if_neg a7], by omega⟩
theorem wP1 (l : List UInt8) (i lo hi : Nat) : wP l i lo hi 1 = (decide (lo ≤ (l.getD (i + 1) 0).toNat) && decide ((l.getD (i + 1) 0).toNat ≤ hi)) := rfl
theorem wP2 (l : List UInt8) (i lo hi : Nat) : wP l i lo hi 2 = (decide (128 ≤ (l.getD (i + 2) 0).toNat) && decide ((l.getD (i + 2) 0).toNat ≤ 191)) := rfl
theorem wP3 (l : List UInt8) (i lo hi : Nat) : wP l i lo hi 3 = (decide (128 ≤ (l.getD (i + 3) 0).toNat) && decide ((l.getD (i + 3) 0).toNat ≤ 191)) := rfl
/-- The width by the model, and by the document. -/
theorem wd_decode (l : List UInt8) (i : Nat) (h : i < l.length) : (Utf8.decode ⟨l.toArray⟩ i).2 = if wdF l i = 0 then 1 else wdF l i := by
  rw [Lib.decode_at, sz_mk, get_mk l i h]
  unfold wdF
  by_cases hb : (l.getD i 0).toNat < 128
  · rw [if_pos hb]
    unfold Lib.decodeN
    rw [if_pos hb, if_neg (by decide)]
  · rw [if_neg hb]
    have e1 : 1 < l.length - i → (ByteArray.mk l.toArray).get! (i + 1) = l.getD (i + 1) 0 := fun h1 => get_mk l (i + 1) (by omega)
    have e2 : 2 < l.length - i → (ByteArray.mk l.toArray).get! (i + 2) = l.getD (i + 2) 0 := fun h1 => get_mk l (i + 2) (by omega)
    have e3 : 3 < l.length - i → (ByteArray.mk l.toArray).get! (i + 3) = l.getD (i + 3) 0 := fun h1 => get_mk l (i + 3) (by omega)
    generalize (ByteArray.mk l.toArray).get! (i + 1) = c1 at *
    generalize (ByteArray.mk l.toArray).get! (i + 2) = c2 at *
    generalize (ByteArray.mk l.toArray).get! (i + 3) = c3 at *
    have l1 := UInt8.toNat_lt c1
    have l2 := UInt8.toNat_lt c2
    have l3 := UInt8.toNat_lt c3
    have hn : 1 ≤ l.length - i := by omega
    have key : ∀ sz lo hi, 2 ≤ sz → sz ≤ 4 → (Lib.slowN (l.length - i) (l.getD i 0).toNat c1.toNat c2.toNat c3.toNat sz lo hi).2 = if wdG l i sz lo hi = 0 then 1 else wdG l i sz lo hi := by
      intro sz lo hi hs2 hs4
      unfold wdG Lib.slowN
      by_cases hlen : l.length < i + sz
      · rw [if_pos (by omega), if_pos hlen, if_pos rfl]
      · rw [if_neg (by omega), if_neg hlen]
        have f1 := e1 (by omega)
        rw [wA_step l i sz lo hi 1 (by omega), wP1, ← f1]
        by_cases b1 : c1.toNat < lo ∨ hi < c1.toNat
        · rw [if_pos b1]
          have : (decide (lo ≤ c1.toNat) && decide (c1.toNat ≤ hi)) = false := by rw [← Bool.decide_and, decide_eq_false_iff_not]; omega
          rw [this, Bool.false_and]; rfl
        · rw [if_neg b1]
          have : (decide (lo ≤ c1.toNat) && decide (c1.toNat ≤ hi)) = true := by rw [← Bool.decide_and, decide_eq_true_eq]; omega
          rw [this, Bool.true_and]
          by_cases s2 : sz ≤ 2
          · rw [if_pos s2, wA_end l i sz lo hi 2 s2, if_pos rfl, if_neg (by omega)]
            simp only []; omega
          · rw [if_neg s2]
            have f2 := e2 (by omega)
            rw [wA_step l i sz lo hi 2 (by omega), wP2, ← f2]
            by_cases b2 : c2.toNat < 128 ∨ 191 < c2.toNat
            · rw [if_pos b2]
              have : (decide (128 ≤ c2.toNat) && decide (c2.toNat ≤ 191)) = false := by rw [← Bool.decide_and, decide_eq_false_iff_not]; omega
              rw [this, Bool.false_and]; rfl
            · rw [if_neg b2]
              have : (decide (128 ≤ c2.toNat) && decide (c2.toNat ≤ 191)) = true := by rw [← Bool.decide_and, decide_eq_true_eq]; omega
              rw [this, Bool.true_and]
              by_cases s3 : sz ≤ 3
              · rw [if_pos s3, wA_end l i sz lo hi 3 s3, if_pos rfl, if_neg (by omega)]
                simp only []; omega
              · rw [if_neg s3]
                have f3 := e3 (by omega)
                rw [wA_step l i sz lo hi 3 (by omega), wP3, ← f3]
                by_cases b3 : c3.toNat < 128 ∨ 191 < c3.toNat
                · rw [if_pos b3]
                  have : (decide (128 ≤ c3.toNat) && decide (c3.toNat ≤ 191)) = false := by rw [← Bool.decide_and, decide_eq_false_iff_not]; omega
                  rw [this, Bool.false_and]; rfl
                · rw [if_neg b3]
                  have : (decide (128 ≤ c3.toNat) && decide (c3.toNat ≤ 191)) = true := by rw [← Bool.decide_and, decide_eq_true_eq]; omega
                  rw [this, Bool.true_and, wA_end l i sz lo hi 4 hs4, if_pos rfl, if_neg (by omega)]
                  simp only []; omega
    rcases wC_all _ (UInt8.toNat_lt (l.getD i 0)) (by omega) with ⟨e, hc⟩ | ⟨e, hc⟩ | ⟨e, hc⟩ | ⟨e, hc⟩ | ⟨e, hc⟩ | ⟨e, hc⟩ | ⟨e, hc⟩ | ⟨e, hc⟩
    · rw [e]
      have hw : wdG l i 0 128 191 = 0 := by unfold wdG; split <;> rfl
      simp only []
      rw [hw, if_pos rfl]
      generalize (l.getD i 0).toNat = b0 at *
      unfold Lib.decodeN
      repeat' split
      all_goals first | rfl | omega
    · rw [e, ← Lib.slow_C2 _ _ _ _ _ hn l1 l2 l3 hc]; exact key 2 128 191 (by omega) (by omega)
    · rw [e, ← Lib.slow_E0 _ _ _ _ _ hn l1 l2 l3 hc]; exact key 3 160 191 (by omega) (by omega)
    · rw [e, ← Lib.slow_ED _ _ _ _ _ hn l1 l2 l3 hc]; exact key 3 128 159 (by omega) (by omega)
    · rw [e, ← Lib.slow_E1 _ _ _ _ _ hn l1 l2 l3 hc]; exact key 3 128 191 (by omega) (by omega)
    · rw [e, ← Lib.slow_F0 _ _ _ _ _ hn l1 l2 l3 hc]; exact key 4 144 191 (by omega) (by omega)
    · rw [e, ← Lib.slow_F4 _ _ _ _ _ hn l1 l2 l3 hc]; exact key 4 128 143 (by omega) (by omega)
    · rw [e, ← Lib.slow_F1 _ _ _ _ _ hn l1 l2 l3 hc]; exact key 4 128 191 (by omega) (by omega)
end Go.Proofs.YtonfjmibnnioiaaDoor
