import Derived.Test.YtjbiknnichfajaaPL1
set_option linter.unusedVariables false
set_option linter.unusedSimpArgs false
namespace Go.Proofs.Ytjbiknnichfajaa
/-- The number that is a whole number, and its key. -/
def fl (c : Int) : Nat := FloatKind.f64.nearest c
def kf (c : Int) : Nat := key (fl c)
theorem kf_step : ∀ c : Nat, c < 1023 → kf (c : Int) < kf ((c + 1 : Nat) : Int) := by decide +kernel
theorem fl_ok' : ∀ c : Nat, c < 1024 → fl (c : Int) < 9218868437227405312 := by decide +kernel
theorem fl_ok {c : Int} (h0 : 0 ≤ c) (h1 : c < 1024) : fl c < 9218868437227405312 := by
  have := fl_ok' c.toNat (by omega)
  rwa [Int.toNat_of_nonneg h0] at this
theorem fl_num {c : Int} (h0 : 0 ≤ c) (h1 : c < 1024) : ¬ isNaN (fl c) := by
  have := fl_ok h0 h1
  unfold isNaN; omega
theorem kf_rise (a : Nat) : ∀ d : Nat, a + d + 1 < 1024 → kf (a : Int) < kf ((a + d + 1 : Nat) : Int)
  | 0, h => kf_step a (by omega)
  | d + 1, h => Nat.lt_trans (kf_rise a d (by omega)) (kf_step (a + d + 1) (by omega))
theorem kf_lt {a b : Int} (h0 : 0 ≤ a) (h : a < b) (h1 : b < 1024) : kf a < kf b := by
  have := kf_rise a.toNat (b.toNat - a.toNat - 1) (by omega)
  rw [show a.toNat + (b.toNat - a.toNat - 1) + 1 = b.toNat by omega, Int.toNat_of_nonneg h0, Int.toNat_of_nonneg (by omega)] at this
  exact this
/-- How many keys lie below one. -/
def pl (K : List Nat) (k : Nat) : Nat := K.countP (· < k)
theorem pl_nil (k : Nat) : pl [] k = 0 := rfl
theorem pl_succ (K : List Nat) (k i : Nat) (h : i < K.length) : pl (K.take (i + 1)) k = pl (K.take i) k + if K.getD i 0 < k then 1 else 0 := by
  unfold pl
  rw [List.take_succ_eq_append_getElem h, List.countP_append]
  simp [List.countP_cons, List.getD, h]
theorem pl_le (K : List Nat) (k : Nat) : pl K k ≤ K.length := List.countP_le_length
theorem pl_take (K : List Nat) (k low : Nat) (h1 : ∀ j, j < low → K.getD j 0 < k) (h2 : ∀ j, low ≤ j → j < K.length → k ≤ K.getD j 0) (hl : low ≤ K.length) : ∀ i, i ≤ K.length → pl (K.take i) k = min i low
  | 0, _ => by simp [pl]
  | i + 1, h => by
    rw [pl_succ K k i (by omega), pl_take K k low h1 h2 hl i (by omega)]
    by_cases e : i < low
    · rw [if_pos (h1 i e)]; omega
    · rw [if_neg (by have := h2 i (by omega) (by omega); omega)]; omega
theorem pl_low (K : List Nat) (k low : Nat) (h1 : ∀ j, j < low → K.getD j 0 < k) (h2 : ∀ j, low ≤ j → j < K.length → k ≤ K.getD j 0) (hl : low ≤ K.length) : pl K k = low := by
  have := pl_take K k low h1 h2 hl K.length (Nat.le_refl _)
  rw [List.take_length] at this
  omega
/-- Keys that rise. -/
def Rs (K : List Nat) : Prop := ∀ i, i + 1 < K.length → K.getD i 0 < K.getD (i + 1) 0
theorem Rs.lt {K : List Nat} (h : Rs K) (i : Nat) : ∀ d, i + d + 1 < K.length → K.getD i 0 < K.getD (i + d + 1) 0
  | 0, hl => h i hl
  | d + 1, hl => Nat.lt_trans (h.lt i d (by omega)) (h (i + d + 1) hl)
theorem Rs.le {K : List Nat} (h : Rs K) {i j : Nat} (hij : i ≤ j) (hj : j < K.length) : K.getD i 0 ≤ K.getD j 0 := by
  by_cases e : i = j
  · rw [e]; exact Nat.le_refl _
  · have := h.lt i (j - i - 1) (by omega)
    rw [show i + (j - i - 1) + 1 = j by omega] at this
    omega
theorem Rs.lt' {K : List Nat} (h : Rs K) {i j : Nat} (hij : i < j) (hj : j < K.length) : K.getD i 0 < K.getD j 0 := by
  have := h.lt i (j - i - 1) (by omega)
  rwa [show i + (j - i - 1) + 1 = j by omega] at this
theorem Rs.low {K : List Nat} (h : Rs K) {k low : Nat} (h1 : ∀ j, j < low → K.getD j 0 < k) (hl : low ≤ K.length) (h2 : low < K.length → k ≤ K.getD low 0) : pl K k = low :=
  pl_low K k low h1 (fun j hj hj2 => Nat.le_trans (h2 (by omega)) (h.le hj hj2)) hl
theorem Rs.part {K : List Nat} (h : Rs K) (k : Nat) : ∀ j, j < K.length → (K.getD j 0 < k ↔ j < pl K k) := by
  have ex : ∃ low, low ≤ K.length ∧ (∀ j, j < low → K.getD j 0 < k) ∧ (low < K.length → k ≤ K.getD low 0) := by
    have : ∀ n, n ≤ K.length → ∃ low, low ≤ n ∧ (∀ j, j < low → K.getD j 0 < k) ∧ (low < n → k ≤ K.getD low 0) := by
      intro n
      induction n with
      | zero => exact fun _ => ⟨0, Nat.le_refl _, fun j hj => by omega, fun hj => by omega⟩
      | succ n ih =>
        intro hn
        obtain ⟨low, a, b, c⟩ := ih (by omega)
        by_cases e : low < n
        · exact ⟨low, by omega, b, fun _ => c e⟩
        · obtain rfl : low = n := by omega
          by_cases e2 : K.getD low 0 < k
          · exact ⟨low + 1, Nat.le_refl _, fun j hj => by by_cases e3 : j = low; (· rw [e3]; exact e2); (· exact b j (by omega)), fun hj => by omega⟩
          · exact ⟨low, by omega, b, fun _ => by omega⟩
    exact this K.length (Nat.le_refl _)
  obtain ⟨low, a, b, c⟩ := ex
  rw [h.low b a c]
  intro j hj
  refine ⟨fun hh => ?_, b j⟩
  by_cases e : j < low
  · exact e
  · have := c (by omega)
    have := h.le (i := low) (j := j) (by omega) hj
    omega
/-- The last of the first n keys that is this one. -/
def ctF (K : List Nat) (k : Nat) : Nat → Int
  | 0 => -1
  | n + 1 => if K.getD n 0 = k then (n : Int) else ctF K k n
theorem ct_none (K : List Nat) (k : Nat) : ∀ n, (∀ j, j < n → K.getD j 0 ≠ k) → ctF K k n = -1
  | 0, _ => rfl
  | n + 1, h => by unfold ctF; rw [if_neg (h n (by omega)), ct_none K k n (fun j hj => h j (by omega))]
theorem ct_at (K : List Nat) (k p : Nat) (hp : K.getD p 0 = k) : ∀ n, p < n → (∀ j, p < j → j < n → K.getD j 0 ≠ k) → ctF K k n = (p : Int)
  | 0, h, _ => by omega
  | n + 1, h, h2 => by
    unfold ctF
    by_cases e : p = n
    · rw [← e, if_pos hp]
    · rw [if_neg (h2 n (by omega) (by omega)), ct_at K k p hp n (by omega) (fun j hj hj2 => h2 j hj (by omega))]
theorem Rs.ct {K : List Nat} (h : Rs K) (k : Nat) : ctF K k K.length = if pl K k < K.length ∧ K.getD (pl K k) 0 = k then ((pl K k : Nat) : Int) else -1 := by
  have hp := h.part k
  split
  · rename_i e
    refine ct_at K k _ e.2 _ e.1 (fun j hj hj2 => ?_)
    have := h.lt' hj hj2
    omega
  · rename_i e
    refine ct_none K k _ (fun j hj he => e ?_)
    have h1 : ¬ j < pl K k := fun hh => by have := (hp j hj).2 hh; omega
    have h2 : pl K k ≤ j := by omega
    have h3 : k ≤ K.getD (pl K k) 0 := by
      by_cases h4 : K.getD (pl K k) 0 < k
      · have := (hp _ (by omega)).1 h4; omega
      · omega
    by_cases h5 : pl K k = j
    · rw [h5]; exact ⟨hj, he⟩
    · have := h.lt' (i := pl K k) (j := j) (by omega) hj
      omega
/-- A code: Bin, Cat, Lost. -/
abbrev Cd := Int × Int × Bool
def cdF (KC KT : List Nat) (x : Nat) : Cd := if isNaN x then (0, -1, true) else (((pl KC (key x) : Nat) : Int), ctF KT (key x) KT.length, false)
theorem cd_nan {KC KT : List Nat} {x : Nat} (h : isNaN x) : cdF KC KT x = (0, -1, true) := by unfold cdF; rw [if_pos h]
theorem cd_num {KC KT : List Nat} {x : Nat} (h : ¬ isNaN x) : cdF KC KT x = (((pl KC (key x) : Nat) : Int), ctF KT (key x) KT.length, false) := by unfold cdF; rw [if_neg h]
end Go.Proofs.Ytjbiknnichfajaa
