import Derived.Test.YtmhgpgdekaeegaaDoorOSE1
import Derived.Test.YtmhgpgdekaeegaaDoorBC5
import Derived.Test.YtmhgpgdekaeegaaDoorBD3
import Derived.Test.YtmhgpgdekaeegaaDoorBB4
set_option linter.unusedVariables false
set_option linter.unusedSimpArgs false
namespace Go.Proofs.YtmhgpgdekaeegaaDoor
/-- In a rising list those below a number are the first. -/
theorem blw_rise : ∀ {D : List Nat} (y : Nat), (D.Pairwise fun x y => key x < key y) → ∀ i, i < D.length → (key (D.getD i 0) < key y ↔ i < blw D y)
  | [], _, _, i, hi => by simp at hi
  | x :: D, y, h, i, hi => by
    obtain ⟨h1, h2⟩ := List.pairwise_cons.1 h
    by_cases hx : key x < key y
    · have e : blw (x :: D) y = blw D y + 1 := by simp [blw, List.filter_cons, hx]
      rw [e]
      cases i with
      | zero => simp [List.getD, hx]
      | succ i =>
        have := blw_rise y h2 i (by simpa using hi)
        simp only [List.getD, List.getElem?_cons_succ] at this ⊢
        rw [this]; omega
    · have e : blw (x :: D) y = 0 := by
        unfold blw
        rw [List.length_eq_zero_iff, List.filter_eq_nil_iff]
        intro z hz
        rcases List.mem_cons.1 hz with rfl | hz
        · simp; omega
        · have := h1 z hz; simp; omega
      rw [e]
      constructor
      · intro q
        exfalso
        cases i with
        | zero => simp [List.getD] at q; omega
        | succ i =>
          have hi2 : i < D.length := by simpa using hi
          have := h1 (D.getD i 0) (by simp [List.getD, hi2])
          simp only [List.getD, List.getElem?_cons_succ] at q this
          omega
      · intro q; omega
theorem cnt_mid (n L : Nat) : ∀ K, (List.range K).countP (fun i => decide (n ≤ i ∧ i < L)) = min K L - n
  | 0 => by simp
  | K + 1 => by
    rw [List.range_succ, List.countP_append, cnt_mid n L K]
    simp only [List.countP_cons, List.countP_nil]
    by_cases h : n ≤ K ∧ K < L
    · rw [decide_eq_true h]; simp; omega
    · rw [decide_eq_false h]; simp; omega
/-- What a mask leaves: the bits from n on. -/
theorem mask_hs {L n : Nat} {m : List Nat} (h : Bi.mkl L (fun i => !decide (0 ≤ i ∧ i < n)) m) (i : Nat) : Bi.hs m i = decide (n ≤ i ∧ i < L) := by
  rw [h.2.2 i]
  by_cases h1 : i < L <;> by_cases h2 : i < n <;> simp [h1, h2] <;> omega
theorem mask_cn {L n : Nat} {m : List Nat} (h : Bi.mkl L (fun i => !decide (0 ≤ i ∧ i < n)) m) (K : Nat) : Bi.cn m K = min K L - n := by
  unfold Bi.cn
  rw [← cnt_mid n L K]
  congr 1
  funext i
  exact mask_hs h i
theorem mask_count {L n : Nat} {m : List Nat} (h : Bi.mkl L (fun i => !decide (0 ≤ i ∧ i < n)) m) : Bi.cn m (64 * m.length) = L - n := by
  rw [mask_cn h, h.1]
  have : min (64 * ((L + 63) / 64)) L = L := by omega
  rw [this]
theorem mask_low {L n : Nat} {m : List Nat} (h : Bi.mkl L (fun i => !decide (0 ≤ i ∧ i < n)) m) (hn : n < L) : Bi.selI m 0 = (n : Int) := by
  have h1 : Bi.cn m n = 0 := by rw [mask_cn h]; omega
  have h2 : n < 64 * m.length := by rw [h.1]; omega
  have h3 : Bi.hs m n = true := by rw [mask_hs h]; simp [hn]
  have := Bi.selI_some h2 h3
  rw [h1] at this
  exact this
theorem mask_none {L n : Nat} {m : List Nat} (h : Bi.mkl L (fun i => !decide (0 ≤ i ∧ i < n)) m) (hn : L ≤ n) : Bi.selI m 0 = -1 := Bi.selI_none (by rw [mask_count h]; omega)
theorem mask_has {L n : Nat} {m : List Nat} (h : Bi.mkl L (fun i => !decide (0 ≤ i ∧ i < n)) m) {i : Nat} (hi : i < L) : Bi.hasI m (i : Int) = decide (n ≤ i) := by
  unfold Bi.hasI
  rw [Int.toNat_natCast, mask_hs h]
  simp [hi]
/-- Two and one, once each. -/
theorem dst_two : Dst [4611686018427387904, 4607182418800017408, 4611686018427387904] [4607182418800017408, 4611686018427387904] := by
  refine ⟨by decide +kernel, fun x => ?_⟩
  have a1 : aK (key 4611686018427387904) = 4611686018427387904 := by decide +kernel
  have a2 : aK (key 4607182418800017408) = 4607182418800017408 := by decide +kernel
  have n1 : ¬ isNaN 4611686018427387904 := by decide
  have n2 : ¬ isNaN 4607182418800017408 := by decide
  simp only [List.mem_cons, List.not_mem_nil, or_false]
  constructor
  · rintro (rfl | rfl)
    · exact ⟨_, .inr (.inl rfl), n2, a2.symm⟩
    · exact ⟨_, .inl rfl, n1, a1.symm⟩
  · rintro ⟨y, (rfl | rfl | rfl), _, r⟩
    · right; rw [r, a1]
    · left; rw [r, a2]
    · right; rw [r, a1]
theorem blw_two : blw [4607182418800017408, 4611686018427387904] 4611686018427387904 = 1 := by decide +kernel
end Go.Proofs.YtmhgpgdekaeegaaDoor
