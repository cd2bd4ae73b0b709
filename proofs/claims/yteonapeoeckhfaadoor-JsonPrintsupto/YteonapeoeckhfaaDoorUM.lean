import Derived.Test.YteonapeoeckhfaaDoorJB
import Derived.Lib.ValidU
import Derived.Lib.ValidAsc
import Derived.Lib.TrimUEq
import Derived.Lib.MapLaws
set_option linter.unusedVariables false
set_option linter.unusedSimpArgs false
namespace Go.Proofs.YteonapeoeckhfaaDoor
def bt (l : List UInt8) (i : Nat) : Nat := (l.getD i 0).toNat
theorem bt_lt (l : List UInt8) (i : Nat) : bt l i < 256 := UInt8.toNat_lt _
/-- A character's bytes by its first one; what that one says; the least number that is written so. -/
def cN (x : Nat) : Nat := if x < 224 then 2 else if x < 240 then 3 else 4
def cV (x : Nat) : Nat := if x < 224 then x % 32 else if x < 240 then x % 16 else x % 8
def cL (x : Nat) : Nat := if x < 224 then 128 else if x < 240 then 2048 else 65536
/-- What so many bytes say. -/
def vv (l : List UInt8) : Nat → Nat
  | 0 => cV (bt l 0)
  | i + 1 => vv l i * 64 + bt l (i + 1) % 64
def cont (l : List UInt8) (i : Nat) : Prop := ∀ j, j < i → bt l (j + 1) / 64 = 2
/-- The length of the right character at the beginning; 0: there is none. -/
def chr (l : List UInt8) : Nat := if l = [] then 0 else if (Lib.decodeL l).1 = 65533 ∧ (Lib.decodeL l).2 = 1 then 0 else (Lib.decodeL l).2
theorem decodeL_eq (l : List UInt8) : Lib.decodeL l = Lib.decodeN l.length (bt l 0) (bt l 1) (bt l 2) (bt l 3) := Lib.decodeL_N l
theorem chr_of {l : List UInt8} (hl : l ≠ []) {r n : Nat} (h : Lib.decodeN l.length (bt l 0) (bt l 1) (bt l 2) (bt l 3) = (r, n)) : chr l = if r = 65533 ∧ n = 1 then 0 else n := by
  unfold chr
  rw [if_neg hl, decodeL_eq, h]
theorem chr_lo {l : List UInt8} (hl : l ≠ []) (h : bt l 0 < 128) : chr l = 1 := by
  rw [chr_of hl (show Lib.decodeN _ _ _ _ _ = (bt l 0, 1) by unfold Lib.decodeN; rw [if_pos h])]
  rw [if_neg (by omega)]
theorem chr_bad {l : List UInt8} (hl : l ≠ []) (h : 128 ≤ bt l 0 ∧ bt l 0 < 192 ∨ 248 ≤ bt l 0) : chr l = 0 := by
  have h1 : ¬ bt l 0 < 128 := by omega
  have h2 : ¬ bt l 0 / 32 = 6 := by omega
  have h3 : ¬ bt l 0 / 16 = 14 := by omega
  have h4 : ¬ bt l 0 / 8 = 30 := by omega
  rw [chr_of hl (show Lib.decodeN _ _ _ _ _ = (65533, 1) by unfold Lib.decodeN; rw [if_neg h1, if_neg (fun q => h2 q.1), if_neg (fun q => h3 q.1), if_neg (fun q => h4 q.1)])]
  rfl
theorem chr_short {l : List UInt8} (hl : l ≠ []) (h : 192 ≤ bt l 0 ∧ bt l 0 < 248) (hs : l.length < cN (bt l 0) ∨ ∃ i, i + 1 < cN (bt l 0) ∧ bt l (i + 1) / 64 ≠ 2) : chr l = 0 := by
  refine (chr_of hl (r := 65533) (n := 1) ?_).trans rfl
  have h1 : ¬ bt l 0 < 128 := by omega
  unfold Lib.decodeN
  rw [if_neg h1]
  unfold cN at hs
  by_cases c1 : bt l 0 < 224
  · rw [if_pos c1] at hs
    have h2 : ¬ (1 < l.length ∧ bt l 1 / 64 = 2) := by
      rcases hs with hs | ⟨i, hi, hb⟩
      · omega
      · have : i = 0 := by omega
        subst this
        exact fun q => hb q.2
    have h3 : ¬ bt l 0 / 16 = 14 := by omega
    have h4 : ¬ bt l 0 / 8 = 30 := by omega
    rw [if_neg (by rintro ⟨-, q⟩; exact h2 q), if_neg (fun q => h3 q.1), if_neg (fun q => h4 q.1)]
  · rw [if_neg c1] at hs
    have h2 : ¬ bt l 0 / 32 = 6 := by omega
    rw [if_neg (fun q => h2 q.1)]
    by_cases c2 : bt l 0 < 240
    · rw [if_pos c2] at hs
      have h3 : ¬ ((1 < l.length ∧ bt l 1 / 64 = 2) ∧ (2 < l.length ∧ bt l 2 / 64 = 2)) := by
        rcases hs with hs | ⟨i, hi, hb⟩
        · omega
        · have : i = 0 ∨ i = 1 := by omega
          rcases this with rfl | rfl
          · exact fun q => hb q.1.2
          · exact fun q => hb q.2.2
      have h4 : ¬ bt l 0 / 8 = 30 := by omega
      rw [if_neg (by rintro ⟨-, q⟩; exact h3 q), if_neg (fun q => h4 q.1)]
    · rw [if_neg c2] at hs
      have h3 : ¬ bt l 0 / 16 = 14 := by omega
      have h4 : ¬ ((1 < l.length ∧ bt l 1 / 64 = 2) ∧ (2 < l.length ∧ bt l 2 / 64 = 2) ∧ (3 < l.length ∧ bt l 3 / 64 = 2)) := by
        rcases hs with hs | ⟨i, hi, hb⟩
        · omega
        · have : i = 0 ∨ i = 1 ∨ i = 2 := by omega
          rcases this with rfl | rfl | rfl
          · exact fun q => hb q.1.2
          · exact fun q => hb q.2.1.2
          · exact fun q => hb q.2.2.2
      rw [if_neg (fun q => h3 q.1), if_neg (by rintro ⟨-, q⟩; exact h4 q)]
theorem chr_val {l : List UInt8} (hl : l ≠ []) (h : 192 ≤ bt l 0 ∧ bt l 0 < 248) (hs : cN (bt l 0) ≤ l.length) (hc : cont l (cN (bt l 0) - 1)) :
    chr l = if vv l (cN (bt l 0) - 1) < cL (bt l 0) ∨ 1114111 < vv l (cN (bt l 0) - 1) ∨ (55296 ≤ vv l (cN (bt l 0) - 1) ∧ vv l (cN (bt l 0) - 1) < 57344) then 0 else cN (bt l 0) := by
  have h1 : ¬ bt l 0 < 128 := by omega
  unfold cN at hs hc
  unfold cN cL
  by_cases c1 : bt l 0 < 224
  · rw [if_pos c1] at hs hc
    simp only [if_pos c1]
    have g1 := hc 0 (by omega)
    have e : vv l (2 - 1) = bt l 0 % 32 * 64 + bt l 1 % 64 := by show cV (bt l 0) * 64 + _ = _; unfold cV; rw [if_pos c1]
    rw [e]
    by_cases q : bt l 0 % 32 * 64 + bt l 1 % 64 ≥ 128
    · rw [chr_of hl (show Lib.decodeN _ _ _ _ _ = (_, 2) by unfold Lib.decodeN; rw [if_neg h1, if_pos ⟨by omega, by omega, g1⟩, if_pos q]), if_neg (by simp), if_neg (by omega)]
    · rw [chr_of hl (show Lib.decodeN _ _ _ _ _ = (65533, 1) by unfold Lib.decodeN; rw [if_neg h1, if_pos ⟨by omega, by omega, g1⟩, if_neg q]), if_pos (by simp), if_pos (by omega)]
  · rw [if_neg c1] at hs hc
    simp only [if_neg c1]
    have h2 : ¬ bt l 0 / 32 = 6 := by omega
    by_cases c2 : bt l 0 < 240
    · rw [if_pos c2] at hs hc
      simp only [if_pos c2]
      have g1 := hc 0 (by omega)
      have g2 := hc 1 (by omega)
      have e : vv l (3 - 1) = bt l 0 % 16 * 4096 + bt l 1 % 64 * 64 + bt l 2 % 64 := by show (cV (bt l 0) * 64 + bt l 1 % 64) * 64 + bt l 2 % 64 = _; unfold cV; rw [if_neg c1, if_pos c2]; omega
      rw [e]
      by_cases q : bt l 0 % 16 * 4096 + bt l 1 % 64 * 64 + bt l 2 % 64 ≥ 2048 ∧ (bt l 0 % 16 * 4096 + bt l 1 % 64 * 64 + bt l 2 % 64 < 55296 ∨ (57344 ≤ bt l 0 % 16 * 4096 + bt l 1 % 64 * 64 + bt l 2 % 64 ∧ bt l 0 % 16 * 4096 + bt l 1 % 64 * 64 + bt l 2 % 64 ≤ 1114111))
      · rw [chr_of hl (show Lib.decodeN _ _ _ _ _ = (_, 3) by unfold Lib.decodeN; rw [if_neg h1, if_neg (fun q => h2 q.1), if_pos ⟨by omega, ⟨by omega, g1⟩, by omega, g2⟩, if_pos q]), if_neg (by simp), if_neg (by omega)]
      · rw [chr_of hl (show Lib.decodeN _ _ _ _ _ = (65533, 1) by unfold Lib.decodeN; rw [if_neg h1, if_neg (fun q => h2 q.1), if_pos ⟨by omega, ⟨by omega, g1⟩, by omega, g2⟩, if_neg q]), if_pos (by simp), if_pos (by omega)]
    · rw [if_neg c2] at hs hc
      simp only [if_neg c2]
      have h3 : ¬ bt l 0 / 16 = 14 := by omega
      have g1 := hc 0 (by omega)
      have g2 := hc 1 (by omega)
      have g3 := hc 2 (by omega)
      have e : vv l (4 - 1) = bt l 0 % 8 * 262144 + bt l 1 % 64 * 4096 + bt l 2 % 64 * 64 + bt l 3 % 64 := by show ((cV (bt l 0) * 64 + bt l 1 % 64) * 64 + bt l 2 % 64) * 64 + bt l 3 % 64 = _; unfold cV; rw [if_neg c1, if_neg c2]; omega
      rw [e]
      by_cases q : bt l 0 % 8 * 262144 + bt l 1 % 64 * 4096 + bt l 2 % 64 * 64 + bt l 3 % 64 ≥ 65536 ∧ (bt l 0 % 8 * 262144 + bt l 1 % 64 * 4096 + bt l 2 % 64 * 64 + bt l 3 % 64 < 55296 ∨ (57344 ≤ bt l 0 % 8 * 262144 + bt l 1 % 64 * 4096 + bt l 2 % 64 * 64 + bt l 3 % 64 ∧ bt l 0 % 8 * 262144 + bt l 1 % 64 * 4096 + bt l 2 % 64 * 64 + bt l 3 % 64 ≤ 1114111))
      · rw [chr_of hl (show Lib.decodeN _ _ _ _ _ = (_, 4) by unfold Lib.decodeN; rw [if_neg h1, if_neg (fun q => h2 q.1), if_neg (fun q => h3 q.1), if_pos ⟨by omega, ⟨by omega, g1⟩, ⟨by omega, g2⟩, by omega, g3⟩, if_pos q]), if_neg (by simp), if_neg (by omega)]
      · rw [chr_of hl (show Lib.decodeN _ _ _ _ _ = (65533, 1) by unfold Lib.decodeN; rw [if_neg h1, if_neg (fun q => h2 q.1), if_neg (fun q => h3 q.1), if_pos ⟨by omega, ⟨by omega, g1⟩, ⟨by omega, g2⟩, by omega, g3⟩, if_neg q]), if_pos (by simp), if_pos (by omega)]
theorem chr_le (l : List UInt8) : chr l ≤ l.length := by
  unfold chr
  by_cases h : l = []
  · rw [if_pos h]; omega
  · rw [if_neg h]
    split
    · omega
    · exact Lib.decodeL_le l h
theorem chr_zero {l : List UInt8} (hl : l ≠ []) : chr l = 0 ↔ ((Lib.decodeL l).1 = 65533 ∧ (Lib.decodeL l).2 = 1) := by
  unfold chr
  rw [if_neg hl]
  have := Lib.decodeL_width l
  constructor
  · intro h
    by_cases q : (Lib.decodeL l).1 = 65533 ∧ (Lib.decodeL l).2 = 1
    · exact q
    · rw [if_neg q] at h; omega
  · intro q; rw [if_pos q]
theorem chr_pos {l : List UInt8} (hl : l ≠ []) (h : chr l ≠ 0) : chr l = (Lib.decodeL l).2 := by
  unfold chr at h ⊢
  rw [if_neg hl] at h ⊢
  by_cases q : (Lib.decodeL l).1 = 65533 ∧ (Lib.decodeL l).2 = 1
  · rw [if_pos q] at h; exact absurd rfl h
  · rw [if_neg q]
theorem validGo_eq : ∀ (n m : Nat) (l : List UInt8), l.length ≤ n → l.length ≤ m → Lib.validGoD n l = Lib.validGoD m l := by
  intro n
  induction n with
  | zero =>
    intro m l h1 h2
    have : l = [] := List.eq_nil_of_length_eq_zero (by omega)
    subst this
    cases m with
    | zero => rfl
    | succ m => simp [Lib.validGoD]
  | succ n ih =>
    intro m l h1 h2
    cases m with
    | zero =>
      have : l = [] := List.eq_nil_of_length_eq_zero (by omega)
      subst this
      simp [Lib.validGoD]
    | succ m =>
      unfold Lib.validGoD
      by_cases hl : l = []
      · rw [if_pos hl, if_pos hl]
      · rw [if_neg hl, if_neg hl]
        have hw := Lib.decodeL_width l
        have hp := List.length_pos_iff.2 hl
        split
        · rfl
        · exact ih m _ (by rw [List.length_drop]; omega) (by rw [List.length_drop]; omega)
/-- Right UTF-8, character by character. -/
theorem validD_chr (l : List UInt8) : Lib.validD l = if l = [] then true else if chr l = 0 then false else Lib.validD (l.drop (chr l)) := by
  by_cases hl : l = []
  · subst hl; rfl
  · rw [if_neg hl]
    have hp := List.length_pos_iff.2 hl
    obtain ⟨n, hn⟩ : ∃ n, l.length = n + 1 := ⟨l.length - 1, by omega⟩
    unfold Lib.validD
    rw [hn, Lib.validGoD, if_neg hl]
    by_cases hc : chr l = 0
    · rw [if_pos hc, if_pos ((chr_zero hl).1 hc)]
    · rw [if_neg hc, if_neg (fun q => hc ((chr_zero hl).2 q)), chr_pos hl hc]
      have hw := Lib.decodeL_width l
      exact validGo_eq _ _ _ (by rw [List.length_drop]; omega) (Nat.le_refl _)
end Go.Proofs.YteonapeoeckhfaaDoor
