import Derived.Test.YtgjhbolnnnibkaaGreatDoorE12
set_option linter.unusedVariables false
set_option linter.unusedSimpArgs false
namespace Go.Proofs.YtgjhbolnnnibkaaGreatDoor.Li
open Go.RowKit Lb Nr
/-- What the model cuts off, as a rounded quotient. -/
theorem cut_even (ng : Bool) (n drop : Nat) : Ieee.Toward.even.cut ng n drop = Nr.rup n (2 ^ drop) := by
  unfold Ieee.Toward.cut Nr.rup
  simp only [Nat.one_shiftLeft]
  by_cases h : drop ≤ n.log2 + 2
  · rw [Nat.min_eq_left h]
    by_cases c : 2 ^ drop < 2 * (n % 2 ^ drop) ∨ 2 * (n % 2 ^ drop) = 2 ^ drop ∧ n / 2 ^ drop % 2 = 1
    · rw [if_pos c]
      have : (decide (2 ^ drop < 2 * (n % 2 ^ drop)) || (2 ^ drop == 2 * (n % 2 ^ drop) && n / 2 ^ drop % 2 == 1)) = true := by
        rcases c with c | ⟨c, d⟩
        · simp [c]
        · rw [Bool.or_eq_true, Bool.and_eq_true]
          right
          exact ⟨by rw [beq_iff_eq]; exact c.symm, by rw [beq_iff_eq]; exact d⟩
      rw [this]; rfl
    · rw [if_neg c]
      have : (decide (2 ^ drop < 2 * (n % 2 ^ drop)) || (2 ^ drop == 2 * (n % 2 ^ drop) && n / 2 ^ drop % 2 == 1)) = false := by
        have c1 : ¬ 2 ^ drop < 2 * (n % 2 ^ drop) := fun k => c (.inl k)
        have c2 : ¬ (2 * (n % 2 ^ drop) = 2 ^ drop ∧ n / 2 ^ drop % 2 = 1) := fun k => c (.inr k)
        rw [Bool.or_eq_false_iff]
        refine ⟨decide_eq_false c1, ?_⟩
        rw [Bool.and_eq_false_iff]
        by_cases d : 2 * (n % 2 ^ drop) = 2 ^ drop
        · right
          rw [beq_eq_false_iff_ne]
          exact fun k => c2 ⟨d, k⟩
        · left
          rw [beq_eq_false_iff_ne]
          exact fun k => d k.symm
      rw [this]; rfl
  · rw [Nat.min_eq_right (by omega)]
    have hl : n < 2 ^ (n.log2 + 1) := Nat.lt_log2_self
    have e1 : 2 ^ (n.log2 + 2) = 2 * 2 ^ (n.log2 + 1) := by rw [Nat.pow_succ 2 (n.log2 + 1)]; omega
    have e2 : 2 ^ (n.log2 + 2) ≤ 2 ^ drop := Nat.pow_le_pow_right (by omega) (by omega)
    generalize 2 ^ (n.log2 + 1) = z at *
    generalize 2 ^ (n.log2 + 2) = g at *
    generalize 2 ^ drop = d at *
    rw [Nat.div_eq_of_lt (by omega), Nat.mod_eq_of_lt (by omega), Nat.div_eq_of_lt (show n < d by omega), Nat.mod_eq_of_lt (show n < d by omega)]
    rw [if_neg (by omega)]
    have : (decide (g < 2 * n) || (g == 2 * n && 0 % 2 == 1)) = false := by
      rw [decide_eq_false (by omega)]
      simp
    rw [this]; rfl
/-- The model's nearest word, as the bits of a rounded quotient. -/
theorem nearest_wb (ng : Bool) (m : Nat) (p : Int) (hm : 0 < m) : ∃ E, IsE (m * 2 ^ p.toNat) (2 ^ (-p).toNat) E ∧ Ieee.double.nearest ng m p = wb (Nr.rup (sA (m * 2 ^ p.toNat) E) (sB (2 ^ (-p).toNat) E)) E + sg ng := by
  obtain ⟨E, hE⟩ : ∃ E, max (p + m.log2 - 52) (-1074) = E := ⟨_, rfl⟩
  have hl1 : 2 ^ m.log2 ≤ m := Nat.log2_self_le (by omega)
  have hl2 : m < 2 ^ (m.log2 + 1) := Nat.lt_log2_self
  have hpos : 0 < 2 ^ (-p).toNat := Nat.two_pow_pos _
  -- a quotient at a place, as a quotient of m alone
  have hfl : ∀ e : Int, fl (m * 2 ^ p.toNat) (2 ^ (-p).toNat) e = m * 2 ^ (p - e).toNat / 2 ^ (e - p).toNat := by
    intro e
    unfold fl sA sB
    have h := (div_ratio (X := m * 2 ^ p.toNat * 2 ^ (-e).toNat) (Y := 2 ^ (-p).toNat * 2 ^ e.toNat) (X' := m * 2 ^ (p - e).toNat) (Y' := 2 ^ (e - p).toNat) (Nat.mul_pos hpos (Nat.two_pow_pos _)) (Nat.two_pow_pos _) (by
      rw [Nat.mul_assoc, Nat.mul_assoc, Nat.mul_assoc, ← Nat.pow_add, ← Nat.pow_add, ← Nat.pow_add, ← Nat.pow_add]
      rw [show p.toNat + ((-e).toNat + (e - p).toNat) = (p - e).toNat + ((-p).toNat + e.toNat) by omega])).1
    exact h
  have hrp : ∀ e : Int, Nr.rup (sA (m * 2 ^ p.toNat) e) (sB (2 ^ (-p).toNat) e) = Nr.rup (m * 2 ^ (p - e).toNat) (2 ^ (e - p).toNat) := by
    intro e
    apply Nr.rup_ratio (sB_pos hpos e) (Nat.two_pow_pos _)
    unfold sA sB
    rw [Nat.mul_assoc, Nat.mul_assoc, Nat.mul_assoc, ← Nat.pow_add, ← Nat.pow_add, ← Nat.pow_add, ← Nat.pow_add]
    rw [show p.toNat + ((-e).toNat + (e - p).toNat) = (p - e).toNat + ((-p).toNat + e.toNat) by omega]
  have k53 : (2 : Nat) ^ 53 = 9007199254740992 := rfl
  have hI : IsE (m * 2 ^ p.toNat) (2 ^ (-p).toNat) E := by
    refine ⟨by omega, ?_, ?_⟩
    · rw [hfl, ← k53]
      rw [Nat.div_lt_iff_lt_mul (Nat.two_pow_pos _), ← Nat.pow_add]
      have a : m * 2 ^ (p - E).toNat < 2 ^ (m.log2 + 1) * 2 ^ (p - E).toNat := Nat.mul_lt_mul_of_pos_right hl2 (Nat.two_pow_pos _)
      rw [← Nat.pow_add] at a
      exact Nat.lt_of_lt_of_le a (Nat.pow_le_pow_right (by omega) (by omega))
    · by_cases c : E = -1074
      · exact .inl c
      · right
        rw [hfl, ← k53, Nat.le_div_iff_mul_le (Nat.two_pow_pos _), ← Nat.pow_add]
        have a : 2 ^ m.log2 * 2 ^ (p - (E - 1)).toNat ≤ m * 2 ^ (p - (E - 1)).toNat := Nat.mul_le_mul_right _ hl1
        rw [← Nat.pow_add] at a
        exact Nat.le_trans (Nat.pow_le_pow_right (by omega) (by omega)) a
  refine ⟨E, hI, ?_⟩
  obtain ⟨s1, s2⟩ := small_E hpos hI
  rw [hrp] at s1 s2
  rw [hrp]
  have e1 : Ieee.double.signWeight = 9223372036854775808 := by decide
  have e2 : Ieee.double.binade = 4503599627370496 := by decide
  have e3 : Ieee.double.infRung = 9218868437227405312 := by decide
  have e4 : Ieee.double.leastPlace = -1074 := by decide
  have e5 : Ieee.double.fractionBits = 52 := rfl
  unfold Ieee.Format.nearest Ieee.Format.word
  rw [if_neg (by omega)]
  simp only [e1, e2, e3, e4, e5]
  rw [show ((52 : Nat) : Int) = 52 from rfl, hE, cut_even, Nat.shiftLeft_eq]
  generalize Nr.rup (m * 2 ^ (p - E).toNat) (2 ^ (E - p).toNat) = M at *
  have hw : min ((E - -1074).toNat * 4503599627370496 + M) 9218868437227405312 = wb M E := by
    unfold wb
    split
    · rw [show (E - -1074).toNat = (E + 1074).toNat by omega, Nat.add_comm]
    · rw [show (E - -1074).toNat = 0 by have := s2 (by omega); omega, Nat.zero_mul, Nat.zero_add]
  rw [hw]
  cases ng
  · rfl
  · show 9223372036854775808 + wb M E = wb M E + 9223372036854775808
    omega
end Go.Proofs.YtgjhbolnnnibkaaGreatDoor.Li
set_option linter.unusedVariables false
set_option linter.unusedSimpArgs false
namespace Go.Proofs.YtgjhbolnnnibkaaGreatDoor.Li
open Go.RowKit Lb Nr
theorem wb_monoD {D m m' : Nat} {E E' : Int} (hD : 0 < D) (h : m ≤ m') (hE : IsE m D E) (hE' : IsE m' D E') : wb (Nr.rup (sA m E) (sB D E)) E ≤ wb (Nr.rup (sA m' E') (sB D E')) E' := by
  have hle := isE_mono hD h hE hE'
  obtain ⟨s1, s2⟩ := small_E hD hE
  obtain ⟨t1, t2⟩ := small_E hD hE'
  have b1 := hE.1
  have b2 := hE'.1
  by_cases c : E = E'
  · subst c
    have hm : Nr.rup (sA m E) (sB D E) ≤ Nr.rup (sA m' E) (sB D E) := by
      apply rup_mono (sB_pos hD E)
      unfold sA
      exact Nat.mul_le_mul_right _ h
    generalize Nr.rup (sA m E) (sB D E) = M at *
    generalize Nr.rup (sA m' E) (sB D E) = M' at *
    unfold wb
    split <;> split <;> omega
  · generalize Nr.rup (sA m E) (sB D E) = M at *
    generalize Nr.rup (sA m' E') (sB D E') = M' at *
    have hM' : 4503599627370496 ≤ M' := by
      apply Classical.byContradiction
      intro g
      have := t2 (by omega)
      omega
    unfold wb
    rw [if_pos hM']
    split <;> omega
/-- Rounding rises: the lesser quotient has the lesser bits, or the same. -/
theorem wb_rise {N D N' D' : Nat} {E E' : Int} (hD : 0 < D) (hD' : 0 < D') (h : N * D' ≤ N' * D) (hE : IsE N D E) (hE' : IsE N' D' E') : wb (Nr.rup (sA N E) (sB D E)) E ≤ wb (Nr.rup (sA N' E') (sB D' E')) E' := by
  have a := (isE_scale (N := N) (D := D) hD' E).2 hE
  have b := (isE_scale (N := N') (D := D') hD E').2 hE'
  have c := wb_monoD (D := D' * D) (m := D' * N) (m' := D * N') (Nat.mul_pos hD' hD) (by rw [Nat.mul_comm D' N, Nat.mul_comm D N']; exact h) a (by rw [Nat.mul_comm D' D]; exact b)
  rw [rup_scale hD' hD E] at c
  rw [Nat.mul_comm D' D, rup_scale hD hD' E'] at c
  exact c
end Go.Proofs.YtgjhbolnnnibkaaGreatDoor.Li
set_option linter.unusedVariables false
set_option linter.unusedSimpArgs false
namespace Go.Proofs.YtgjhbolnnnibkaaGreatDoor.Li
open Go.RowKit Lb Nr
/-- So many of the least numbers are one. -/
def Z74 : Nat := 2 ^ 200 * 2 ^ 200 * 2 ^ 200 * 2 ^ 200 * 2 ^ 200 * 2 ^ 74
theorem z_key (a b k : Nat) (h : k = 5 * a + b) : 2 ^ k = 2 ^ a * 2 ^ a * 2 ^ a * 2 ^ a * 2 ^ a * 2 ^ b := by
  rw [h, show 5 * a + b = a + a + a + a + a + b by omega]
  simp only [Nat.pow_add]
theorem z_of {k : Nat} (h : k = 1074) : 2 ^ k = Z74 := z_key 200 74 k (by omega)
theorem z_split {a b : Nat} (h : a + b = 1074) : 2 ^ a * 2 ^ b = Z74 := by rw [← Nat.pow_add]; exact z_of h
theorem z_add {a k : Nat} (h : k = a + 1074) : 2 ^ k = 2 ^ a * Z74 := by
  obtain ⟨b, hb⟩ : ∃ b, b = 1074 := ⟨_, rfl⟩
  rw [h, ← hb, Nat.pow_add, z_of hb]
theorem z_pos : 0 < Z74 := by
  obtain ⟨b, hb⟩ : ∃ b, b = 1074 := ⟨_, rfl⟩
  rw [← z_of hb]
  exact Nat.two_pow_pos _
/-- The amount in units of the least number. -/
theorem mg_parts (b : Nat) (hk : pKind b < 3) : Fo.mg (b % 9223372036854775808) = pM b * 2 ^ (pE b + 1074).toNat := by
  have e1 : b % 9223372036854775808 / 4503599627370496 = pField b := by unfold pField; omega
  have e2 : b % 9223372036854775808 % 4503599627370496 = pKept b := by unfold pKept; omega
  have hf : pField b < 2047 := by
    have : pField b < 2048 := Nat.mod_lt _ (by omega)
    unfold pKind at hk
    by_cases c : pField b = 2047
    · rw [if_pos c] at hk
      split at hk <;> omega
    · omega
  have hkp : pKept b < 4503599627370496 := Nat.mod_lt _ (by omega)
  unfold Fo.mg
  rw [e1, e2]
  have e3 : b % 9223372036854775808 < 4503599627370496 ↔ pField b = 0 := by rw [← e1]; omega
  unfold pM pE
  by_cases c : pField b = 0
  · rw [if_pos (e3.2 c), if_neg (by omega), if_neg (by omega), if_neg (by omega), c]
    have : b % 9223372036854775808 = pKept b := by omega
    rw [this]
    by_cases d : 0 < pKept b
    · rw [if_pos d, show (-1074 + 1074 : Int).toNat = 0 from rfl, Nat.zero_sub]
    · have : pKept b = 0 := by omega
      rw [this, Nat.zero_mul, Nat.zero_mul]
  · rw [if_neg (fun k => c (e3.1 k)), if_pos (by omega), if_neg (by omega), if_pos (by omega)]
    rw [show (-1074 + (pField b : Int) - 1 + 1074).toNat = pField b - 1 by omega]
theorem nR_ge {b c : Nat} (hk : pKind b < 3) (h : c ≤ b % 9223372036854775808) : Nr.rup (Fo.mg c * 1000000) Z74 ≤ Nr.rup (Fo.mg (b % 9223372036854775808) * 1000000) Z74 := by
  apply rup_mono z_pos
  apply Nat.mul_le_mul_right
  rcases Nat.lt_or_eq_of_le h with k | k
  · exact Nat.le_of_lt (Fo.mg_lt k)
  · rw [k]; exact Nat.le_refl _
theorem nR_le {b c : Nat} (hk : pKind b < 3) (h : b % 9223372036854775808 ≤ c) : Nr.rup (Fo.mg (b % 9223372036854775808) * 1000000) Z74 ≤ Nr.rup (Fo.mg c * 1000000) Z74 := by
  apply rup_mono z_pos
  apply Nat.mul_le_mul_right
  rcases Nat.lt_or_eq_of_le h with k | k
  · exact Nat.le_of_lt (Fo.mg_lt k)
  · rw [k]; exact Nat.le_refl _
theorem nR_mg (b : Nat) (hk : pKind b < 3) : nR b = Nr.rup (Fo.mg (b % 9223372036854775808) * 1000000) Z74 := by
  have q := nXY b
  have hp := pE_in b
  show Nr.rup (nX b * 1000000) (nY b) = _
  apply Nr.rup_ratio (nY_pos b) z_pos
  rw [mg_parts b hk]
  have key : nX b * Z74 = pM b * 2 ^ (pE b + 1074).toNat * nY b := by
    generalize nX b = X at *
    generalize nY b = Y at *
    generalize pM b = M at *
    generalize pE b = E at *
    by_cases c : 0 ≤ E
    · rw [show (-E).toNat = 0 by clear q; omega, Nat.pow_zero, Nat.mul_one] at q
      rw [z_add (a := E.toNat) (k := (E + 1074).toNat) (by clear q; omega), ← q]
      generalize Z74 = Z
      generalize 2 ^ E.toNat = W
      grind
    · rw [show E.toNat = 0 by clear q; omega, Nat.pow_zero, Nat.mul_one] at q
      rw [← z_split (a := (-E).toNat) (b := (E + 1074).toNat) (by clear q; omega)]
      rw [← Nat.mul_assoc, ← q]
      generalize 2 ^ (E + 1074).toNat = Z
      grind
  generalize Z74 = Z at *
  generalize pM b * 2 ^ (pE b + 1074).toNat = G at *
  calc nX b * 1000000 * Z = nX b * Z * 1000000 := by grind
    _ = G * nY b * 1000000 := by rw [key]
    _ = G * 1000000 * nY b := by grind
/-- The two borders: 9.3e12 and 9.2e12. -/
theorem border_93 : Nr.rup (Fo.mg 4801095203149578240 * 1000000) Z74 = 9300000000000000000 := by decide +kernel
theorem border_92 : Nr.rup (Fo.mg 4801044003149578240 * 1000000) Z74 = 9200000000000000000 := by decide +kernel
theorem border_9 : Nr.rup (Fo.mg 4741671816366391296 * 1000000) Z74 = 1000000000000000 := by decide +kernel
theorem nR_above {b : Nat} (hk : pKind b < 3) (h : 4801095203149578240 ≤ b % 9223372036854775808) : 9223372036854775808 < nR b := by
  rw [nR_mg b hk]
  have := nR_ge hk h
  rw [border_93] at this
  omega
theorem nR_below {b : Nat} (hk : pKind b < 3) (h : b % 9223372036854775808 ≤ 4801044003149578240) : nR b < 9223372036854775808 := by
  rw [nR_mg b hk]
  have := nR_le hk h
  rw [border_92] at this
  omega
theorem nR_few {b : Nat} (hk : pKind b < 3) (h : b % 9223372036854775808 ≤ 4741671816366391296) : nR b ≤ 1000000000000000 := by
  rw [nR_mg b hk]
  have := nR_le hk h
  rw [border_9] at this
  exact this
end Go.Proofs.YtgjhbolnnnibkaaGreatDoor.Li
set_option linter.unusedVariables false
set_option linter.unusedSimpArgs false
namespace Go.Proofs.YtgjhbolnnnibkaaGreatDoor.Li
open Go.RowKit Lb Nr
/-- The worth of bits that were put together, in units of the least number. -/
theorem mg_wb (M : Nat) (E : Int) (h2 : M ≤ 9007199254740992) (hs : M < 4503599627370496 → E = -1074) (hE : -1074 ≤ E) (hE2 : E ≤ 900) : Fo.mg (wb M E) = M * 2 ^ (E + 1074).toNat := by
  obtain ⟨K, hK⟩ : ∃ K : Nat, E = (K : Int) - 1074 := ⟨(E + 1074).toNat, by omega⟩
  subst hK
  rw [show ((K : Int) - 1074 + 1074).toNat = K by omega]
  by_cases c : 4503599627370496 ≤ M
  · have hw : wb M ((K : Int) - 1074) = M + K * 4503599627370496 := by
      unfold wb
      rw [if_pos c, show ((K : Int) - 1074 + 1074).toNat = K by omega]
      omega
    rw [hw]
    unfold Fo.mg
    rw [if_neg (by omega)]
    by_cases d : M = 9007199254740992
    · subst d
      rw [show (9007199254740992 + K * 4503599627370496) % 4503599627370496 = 0 by omega, show (9007199254740992 + K * 4503599627370496) / 4503599627370496 - 1 = K + 1 by omega, Nat.pow_succ]
      generalize 2 ^ K = Z
      omega
    · rw [show (M + K * 4503599627370496) % 4503599627370496 = M - 4503599627370496 by omega, show (M + K * 4503599627370496) / 4503599627370496 - 1 = K by omega, show 4503599627370496 + (M - 4503599627370496) = M by omega]
  · have hk : K = 0 := by have := hs (by omega); omega
    subst hk
    have hw : wb M (((0 : Nat) : Int) - 1074) = M := by
      unfold wb
      rw [if_neg c]
      omega
    rw [hw]
    unfold Fo.mg
    rw [if_pos (by omega), Nat.div_eq_of_lt (by omega)]
/-- A quotient below 2^53 has no place above nought. -/
theorem place_small {N D : Nat} {E : Int} (hD : 0 < D) (h : N < 9007199254740992 * D) (hE : IsE N D E) : E ≤ 0 := by
  obtain ⟨a, b, c⟩ := hE
  apply Classical.byContradiction
  intro g
  rcases c with c | c
  · omega
  · have q := fl_add (N := N) hD 0 (E - 1).toNat
    rw [show (0 : Int) + ((E - 1).toNat : Int) = E - 1 by omega] at q
    have r := Nat.div_le_self (fl N D 0) (2 ^ (E - 1).toNat)
    rw [← q] at r
    have s : fl N D 0 < 9007199254740992 := by
      unfold fl sA sB
      rw [show (0 : Int).toNat = 0 from rfl, show (-(0 : Int)).toNat = 0 from rfl, Nat.pow_zero, Nat.mul_one, Nat.mul_one]
      exact (Nat.div_lt_iff_lt_mul hD).2 h
    omega
end Go.Proofs.YtgjhbolnnnibkaaGreatDoor.Li
set_option linter.unusedVariables false
set_option linter.unusedSimpArgs false
namespace Go.Proofs.YtgjhbolnnnibkaaGreatDoor.Li
open Go.RowKit Lb Nr
theorem nearest_nought (ng : Bool) (p : Int) : Ieee.double.nearest ng 0 p = 0 + sg ng := by
  unfold Ieee.Format.nearest
  rw [if_pos rfl]
  cases ng <;> decide
/-- The sign stands apart. -/
theorem nearest_sg (ng : Bool) (m : Nat) (p : Int) : Ieee.double.nearest ng m p = Ieee.double.nearest false m p + sg ng ∧ Ieee.double.nearest false m p ≤ 9218868437227405312 := by
  rcases Nat.eq_zero_or_pos m with h | h
  · subst h
    rw [nearest_nought, nearest_nought]
    exact ⟨rfl, by decide⟩
  · obtain ⟨E, hE, e⟩ := nearest_wb ng m p h
    obtain ⟨E', hE', e'⟩ := nearest_wb false m p h
    rw [isE_one (Nat.two_pow_pos _) hE' hE] at e'
    rw [e, e']
    exact ⟨rfl, wb_le _ _⟩
/-- The greater amount has the greater word, or the same. -/
theorem nearest_rise {m m' : Nat} {p p' : Int} (h : m * 2 ^ p.toNat * 2 ^ (-p').toNat ≤ m' * 2 ^ p'.toNat * 2 ^ (-p).toNat) : Ieee.double.nearest false m p ≤ Ieee.double.nearest false m' p' := by
  rcases Nat.eq_zero_or_pos m with c | c
  · subst c
    rw [nearest_nought]
    exact Nat.zero_le _
  · have c' : 0 < m' := by
      rcases Nat.eq_zero_or_pos m' with d | d
      · exfalso
        subst d
        rw [Nat.zero_mul, Nat.zero_mul] at h
        have : 0 < m * 2 ^ p.toNat * 2 ^ (-p').toNat := Nat.mul_pos (Nat.mul_pos c (Nat.two_pow_pos _)) (Nat.two_pow_pos _)
        omega
      · exact d
    obtain ⟨E, hE, e⟩ := nearest_wb false m p c
    obtain ⟨E', hE', e'⟩ := nearest_wb false m' p' c'
    rw [e, e']
    exact Nat.add_le_add_right (wb_rise (Nat.two_pow_pos _) (Nat.two_pow_pos _) h hE hE') _
/-- The key of a rounded number. -/
def kyN (z p : Int) : Int := Fo.ky (Ieee.double.nearest (decide (z < 0)) z.natAbs p)
theorem kyN_eq (z p : Int) : kyN z p = (if z < 0 then -(Ieee.double.nearest false z.natAbs p : Int) else (Ieee.double.nearest false z.natAbs p : Int)) ∧ ¬ Fo.isNaN (Ieee.double.nearest (decide (z < 0)) z.natAbs p) := by
  obtain ⟨a, b⟩ := nearest_sg (decide (z < 0)) z.natAbs p
  obtain ⟨c, d, _⟩ := ky_of (Ieee.double.nearest false z.natAbs p) (decide (z < 0)) b
  unfold kyN
  rw [a]
  refine ⟨?_, d⟩
  rw [c]
  by_cases k : z < 0
  · rw [decide_eq_true k, if_pos k]; rfl
  · rw [decide_eq_false k, if_neg k]; rfl
/-- Rounding rises, with signs. -/
theorem kyN_rise {z z' p p' : Int} (h : z * (2 ^ p.toNat * 2 ^ (-p').toNat : Nat) ≤ z' * (2 ^ p'.toNat * 2 ^ (-p).toNat : Nat)) : kyN z p ≤ kyN z' p' := by
  rw [(kyN_eq z p).1, (kyN_eq z' p').1]
  have hA : 0 < 2 ^ p.toNat * 2 ^ (-p').toNat := Nat.mul_pos (Nat.two_pow_pos _) (Nat.two_pow_pos _)
  have hB : 0 < 2 ^ p'.toNat * 2 ^ (-p).toNat := Nat.mul_pos (Nat.two_pow_pos _) (Nat.two_pow_pos _)
  have up := fun (q : z.natAbs * 2 ^ p.toNat * 2 ^ (-p').toNat ≤ z'.natAbs * 2 ^ p'.toNat * 2 ^ (-p).toNat) => nearest_rise (m := z.natAbs) (m' := z'.natAbs) (p := p) (p' := p') q
  have dn := fun (q : z'.natAbs * 2 ^ p'.toNat * 2 ^ (-p).toNat ≤ z.natAbs * 2 ^ p.toNat * 2 ^ (-p').toNat) => nearest_rise (m := z'.natAbs) (m' := z.natAbs) (p := p') (p' := p) q
  rw [Nat.mul_assoc, Nat.mul_assoc] at up dn
  generalize 2 ^ p.toNat * 2 ^ (-p').toNat = A at *
  generalize 2 ^ p'.toNat * 2 ^ (-p).toNat = B at *
  by_cases c : z < 0
  · rw [if_pos c]
    by_cases d : z' < 0
    · rw [if_pos d]
      obtain ⟨k, hk⟩ : ∃ k : Nat, z = -(k : Int) := ⟨z.natAbs, by omega⟩
      obtain ⟨l, hl⟩ : ∃ l : Nat, z' = -(l : Int) := ⟨z'.natAbs, by omega⟩
      subst hk; subst hl
      rw [Int.neg_mul, Int.neg_mul] at h
      have h2 : l * B ≤ k * A := by
        have : ((l * B : Nat) : Int) ≤ ((k * A : Nat) : Int) := by rw [Int.natCast_mul, Int.natCast_mul]; omega
        exact Int.ofNat_le.1 this
      rw [show (-(k : Int)).natAbs = k by omega, show (-(l : Int)).natAbs = l by omega] at *
      have := dn h2
      omega
    · rw [if_neg d]
      omega
  · rw [if_neg c]
    obtain ⟨k, hk⟩ : ∃ k : Nat, z = (k : Int) := ⟨z.natAbs, by omega⟩
    subst hk
    have d : ¬ z' < 0 := by
      intro d
      have a1 : 0 ≤ (k : Int) * (A : Int) := Int.mul_nonneg (by omega) (by omega)
      have a2 : z' * (B : Int) < 0 := Int.mul_neg_of_neg_of_pos d (by omega)
      omega
    rw [if_neg d]
    obtain ⟨l, hl⟩ : ∃ l : Nat, z' = (l : Int) := ⟨z'.natAbs, by omega⟩
    subst hl
    have h2 : k * A ≤ l * B := by
      have : ((k * A : Nat) : Int) ≤ ((l * B : Nat) : Int) := by rw [Int.natCast_mul, Int.natCast_mul]; exact h
      exact Int.ofNat_le.1 this
    rw [show ((k : Int)).natAbs = k by omega, show ((l : Int)).natAbs = l by omega] at *
    have := up h2
    omega
end Go.Proofs.YtgjhbolnnnibkaaGreatDoor.Li
set_option linter.unusedVariables false
set_option linter.unusedSimpArgs false
namespace Go.Proofs.YtgjhbolnnnibkaaGreatDoor.Li
open Go.RowKit Lb Nr
/-- A finite word, read: its sign, and its worth in units of the least number. -/
theorem read_fin (x : Nat) (h : x % 9223372036854775808 < 9218868437227405312) : ∃ m i, Ieee.double.read x = .number (Fo.negB x) m i ∧ -1074 ≤ i ∧ i ≤ 971 ∧ m < 9007199254740992 ∧ Fo.mg (x % 9223372036854775808) = m * 2 ^ (i + 1074).toNat := by
  rw [Fo.read_eq, if_pos h]
  unfold Fo.mg
  generalize x % 9223372036854775808 = r at *
  by_cases c : r < 4503599627370496
  · refine ⟨_, _, rfl, by omega, by omega, ?_, ?_⟩
    · rw [if_pos c]; omega
    · rw [if_pos c]
      congr 2
      omega
  · refine ⟨_, _, rfl, by omega, by omega, ?_, ?_⟩
    · rw [if_neg c]; omega
    · rw [if_neg c]
      congr 2
      omega
theorem read_million : Ieee.double.read 4696837146684686336 = .number false 8589934592000000 (-33) := by decide +kernel
theorem read_one : Ieee.double.read 4607182418800017408 = .number false 4503599627370496 (-52) := by decide +kernel
end Go.Proofs.YtgjhbolnnnibkaaGreatDoor.Li
set_option linter.unusedVariables false
set_option linter.unusedSimpArgs false
namespace Go.Proofs.YtgjhbolnnnibkaaGreatDoor.Li
open Go.RowKit Lb Nr
/-- A rounded number below 2^53 lies half a unit at most from what was rounded. -/
theorem near_worth (ng : Bool) (m : Nat) (p : Int) (G : Nat) (hp : -1107 ≤ p) (hG : G * 2 ^ (-p).toNat = m * 2 ^ p.toNat * Z74) (hs : G < 9007199254740992 * Z74) :
    ∃ g, Ieee.double.nearest ng m p = g + sg ng ∧ g < 9218868437227405312 ∧ 2 * Fo.mg g ≤ 2 * G + Z74 ∧ 2 * G ≤ 2 * Fo.mg g + Z74 := by
  rcases Nat.eq_zero_or_pos m with c | c
  · subst c
    refine ⟨0, nearest_nought ng p, by decide, ?_⟩
    have : G = 0 := by
      rw [Nat.zero_mul, Nat.zero_mul] at hG
      rcases Nat.mul_eq_zero.1 hG with k | k
      · exact k
      · exact absurd k (Nat.pos_iff_ne_zero.1 (Nat.two_pow_pos _))
    rw [this, Fo.mg_zero]
    generalize Z74 = Z
    omega
  · obtain ⟨E, hE, e⟩ := nearest_wb ng m p c
    have hD : 0 < 2 ^ (-p).toNat := Nat.two_pow_pos _
    have hE0 : E ≤ 0 := by
      apply place_small hD _ hE
      have hz : 0 < Z74 := z_pos
      apply Nat.lt_of_mul_lt_mul_right (a := Z74)
      rw [← hG]
      have := Nat.mul_lt_mul_of_pos_right hs hD
      calc G * 2 ^ (-p).toNat < 9007199254740992 * Z74 * 2 ^ (-p).toNat := this
        _ = 9007199254740992 * 2 ^ (-p).toNat * Z74 := by rw [Nat.mul_right_comm]
    obtain ⟨s1, s2⟩ := small_E hD hE
    have hE1 := hE.1
    obtain ⟨r1, r2⟩ := rup_half (sA (m * 2 ^ p.toNat) E) (sB (2 ^ (-p).toNat) E) (sB_pos hD E)
    refine ⟨_, e, ?_, ?_⟩
    · have : wb (Nr.rup (sA (m * 2 ^ p.toNat) E) (sB (2 ^ (-p).toNat) E)) E ≤ 9007199254740992 + 1074 * 4503599627370496 := by
        unfold wb
        generalize Nr.rup (sA (m * 2 ^ p.toNat) E) (sB (2 ^ (-p).toNat) E) = M at *
        clear r1 r2 hG hs hD hE
        split <;> omega
      exact Nat.lt_of_le_of_lt this (by decide)
    · rw [mg_wb _ E s1 s2 hE1 (Int.le_trans hE0 (by decide))]
      generalize Nr.rup (sA (m * 2 ^ p.toNat) E) (sB (2 ^ (-p).toNat) E) = M at *
      unfold sA sB at r1 r2
      rw [show E.toNat = 0 by clear r1 r2 hG hs hD hE; omega, Nat.pow_zero, Nat.mul_one] at r1 r2
      generalize m * 2 ^ p.toNat = N at *
      generalize 2 ^ (-p).toNat = D at *
      have hz : 2 ^ (-E).toNat * 2 ^ (E + 1074).toNat = Z74 := z_split (by clear r1 r2 hG hs hD hE; omega)
      have hle : 2 ^ (E + 1074).toNat ≤ Z74 := by rw [← hz]; exact Nat.le_mul_of_pos_left _ (Nat.two_pow_pos _)
      generalize Z74 = Z at *
      generalize 2 ^ (-E).toNat = A at *
      generalize 2 ^ (E + 1074).toNat = B at *
      have k1 := Nat.mul_le_mul_right B r1
      have k2 := Nat.mul_le_mul_right B r2
      have q1 : N * A * B = G * D := by rw [Nat.mul_assoc, hz, hG]
      have t1 : (2 * (M * B)) * D ≤ (2 * G + B) * D := by
        calc (2 * (M * B)) * D = 2 * (M * D) * B := by grind
          _ ≤ (2 * (N * A) + D) * B := k1
          _ = 2 * (N * A * B) + B * D := by grind
          _ = (2 * G + B) * D := by rw [q1]; grind
      have t2 : (2 * G) * D ≤ (2 * (M * B) + B) * D := by
        calc (2 * G) * D = 2 * (G * D) := by grind
          _ = 2 * (N * A) * B := by rw [← q1]; grind
          _ ≤ (2 * (M * D) + D) * B := k2
          _ = (2 * (M * B) + B) * D := by grind
      have u1 := Nat.le_of_mul_le_mul_right t1 hD
      have u2 := Nat.le_of_mul_le_mul_right t2 hD
      omega
end Go.Proofs.YtgjhbolnnnibkaaGreatDoor.Li
set_option linter.unusedVariables false
set_option linter.unusedSimpArgs false
namespace Go.Proofs.YtgjhbolnnnibkaaGreatDoor.Li
open Go.RowKit Lb Nr
/-- A float times a million. -/
theorem mul_mil (x : Nat) (h : x % 9223372036854775808 < 9218868437227405312) (hs : Fo.mg (x % 9223372036854775808) * 1000000 < 9007199254740992 * Z74) :
    ∃ g, Ieee.double.mul x 4696837146684686336 = some (g + sg (Fo.negB x)) ∧ g < 9218868437227405312 ∧ 2 * Fo.mg g ≤ 2 * (Fo.mg (x % 9223372036854775808) * 1000000) + Z74 ∧ 2 * (Fo.mg (x % 9223372036854775808) * 1000000) ≤ 2 * Fo.mg g + Z74 := by
  obtain ⟨m, i, e, i1, i2, hm, hg⟩ := read_fin x h
  have hG : Fo.mg (x % 9223372036854775808) * 1000000 * 2 ^ (-(i + -33)).toNat = m * 8589934592000000 * 2 ^ (i + -33).toNat * Z74 := by
    rw [hg, show 8589934592000000 = 1000000 * 2 ^ 33 from rfl]
    have k : 2 ^ (i + 1074).toNat * 2 ^ (-(i + -33)).toNat = 2 ^ 33 * 2 ^ (i + -33).toNat * Z74 := by
      rw [← Nat.pow_add, ← Nat.pow_add]; exact z_add (by clear hs hg e; omega)
    generalize 2 ^ (i + 1074).toNat = A at *
    generalize 2 ^ (-(i + -33)).toNat = B at *
    generalize 2 ^ (i + -33).toNat = C at *
    generalize Z74 = Z at *
    generalize 2 ^ 33 = Y at *
    calc m * A * 1000000 * B = m * 1000000 * (A * B) := by grind
      _ = m * 1000000 * (Y * C * Z) := by rw [k]
      _ = m * (1000000 * Y) * C * Z := by grind
  obtain ⟨g, q1, q2, q3⟩ := near_worth (Fo.negB x) (m * 8589934592000000) (i + -33) (Fo.mg (x % 9223372036854775808) * 1000000) (by clear hs hG hg e; omega) hG hs
  refine ⟨g, ?_, q2, q3⟩
  unfold Ieee.Format.mul
  rw [e, read_million]
  simp only [Ieee.Datum.product, Option.map_some, Ieee.Format.write, Bool.xor_false]
  rw [q1]
end Go.Proofs.YtgjhbolnnnibkaaGreatDoor.Li
set_option linter.unusedVariables false
set_option linter.unusedSimpArgs false
namespace Go.Proofs.YtgjhbolnnnibkaaGreatDoor.Li
open Go.RowKit Lb Nr
/-- A whole number's key, whichever nought's sign. -/
theorem ky_nearest (b : Bool) (t p : Int) (h : t ≠ 0 → b = decide (t < 0)) : Fo.ky (Ieee.double.nearest b t.natAbs p) = kyN t p ∧ ¬ Fo.isNaN (Ieee.double.nearest b t.natAbs p) := by
  by_cases c : t = 0
  · subst c
    unfold kyN
    rw [show (0 : Int).natAbs = 0 from rfl, nearest_nought, nearest_nought]
    cases b <;> decide
  · rw [h c]
    exact ⟨rfl, (kyN_eq t p).2⟩
theorem signed_eq (s : Bool) (m k : Nat) : Ieee.signed s m k = if s then -((m * 2 ^ k : Nat) : Int) else ((m * 2 ^ k : Nat) : Int) := by
  unfold Ieee.signed
  rw [Nat.shiftLeft_eq]
/-- A finite number and one, or one less: the key of the whole sum. -/
theorem sum_one (x : Nat) (t : Bool) (Z : Nat) (hZ : Z = Z74) (h : x % 9223372036854775808 < 9218868437227405312) :
    ∃ b m p T, (Ieee.double.read x).sum (.number t 4503599627370496 (-52)) = some (.number b m p) ∧ Fo.ky (Ieee.double.nearest b m p) = kyN T p ∧ ¬ Fo.isNaN (Ieee.double.nearest b m p) ∧ p ≤ -52 ∧ -1074 ≤ p ∧
      T * (2 ^ (p + 1074).toNat : Nat) = Fo.sv x + (if t then -(Z : Int) else (Z : Int)) := by
  obtain ⟨m, i, e, i1, i2, hm, hg⟩ := read_fin x h
  rw [e]
  obtain ⟨p, hp⟩ : ∃ p, min i (-52) = p := ⟨_, rfl⟩
  have p1 : p ≤ -52 := by omega
  have p2 : -1074 ≤ p := by omega
  obtain ⟨T, hT⟩ : ∃ T, Ieee.signed (Fo.negB x) m (i - p).toNat + Ieee.signed t 4503599627370496 (-52 - p).toNat = T := ⟨_, rfl⟩
  refine ⟨if T = 0 then Fo.negB x && t else decide (T < 0), T.natAbs, p, T, ?_, ?_, ?_, p1, p2, ?_⟩
  · simp only [Ieee.Datum.sum]
    rw [hp, hT]
  · refine (ky_nearest _ T p ?_).1
    intro c
    rw [if_neg c]
  · refine (ky_nearest _ T p ?_).2
    intro c
    rw [if_neg c]
  · rw [← hT, signed_eq, signed_eq]
    unfold Fo.sv
    rw [hg, hZ]
    have k1 : m * 2 ^ (i - p).toNat * 2 ^ (p + 1074).toNat = m * 2 ^ (i + 1074).toNat := by
      rw [Nat.mul_assoc, ← Nat.pow_add, show (i - p).toNat + (p + 1074).toNat = (i + 1074).toNat by clear hg; omega]
    have k2 : 4503599627370496 * 2 ^ (-52 - p).toNat * 2 ^ (p + 1074).toNat = Z74 := by
      rw [show (4503599627370496 : Nat) = 2 ^ 52 from rfl, ← Nat.pow_add]; exact z_split (by clear hg k1; omega)
    rw [← k1, ← k2]
    generalize m * 2 ^ (i - p).toNat = A
    generalize 4503599627370496 * 2 ^ (-52 - p).toNat = B
    generalize 2 ^ (p + 1074).toNat = C
    rw [Int.natCast_mul, Int.natCast_mul]
    cases Fo.negB x <;> cases t <;> simp only [if_true, if_false, Bool.false_eq_true] <;> grind
/-- A whole number's float is not above what is rounded from no less. -/
theorem ky_below (W T p : Int) (Z : Nat) (hZ : Z = Z74) (p1 : p ≤ -52) (p2 : -1074 ≤ p) (h : W * (Z : Int) ≤ T * (2 ^ (p + 1074).toNat : Nat)) : kyN W 0 ≤ kyN T p := by
  apply kyN_rise
  rw [show (0 : Int).toNat = 0 from rfl, show (-(0 : Int)).toNat = 0 from rfl, show p.toNat = 0 by clear h; omega, Nat.pow_zero, Nat.one_mul, Nat.one_mul]
  have k : Z = 2 ^ (-p).toNat * 2 ^ (p + 1074).toNat := by rw [hZ]; exact (z_split (by clear h; omega)).symm
  rw [k] at h
  have hc : 0 < 2 ^ (p + 1074).toNat := Nat.two_pow_pos _
  generalize 2 ^ (p + 1074).toNat = C at *
  generalize 2 ^ (-p).toNat = A at *
  rw [Int.natCast_mul, ← Int.mul_assoc] at h
  have := Int.le_of_mul_le_mul_right h (by omega)
  simpa using this
theorem ky_above (W T p : Int) (Z : Nat) (hZ : Z = Z74) (p1 : p ≤ -52) (p2 : -1074 ≤ p) (h : T * (2 ^ (p + 1074).toNat : Nat) ≤ W * (Z : Int)) : kyN T p ≤ kyN W 0 := by
  apply kyN_rise
  rw [show (0 : Int).toNat = 0 from rfl, show (-(0 : Int)).toNat = 0 from rfl, show p.toNat = 0 by clear h; omega, Nat.pow_zero, Nat.one_mul, Nat.one_mul]
  have k : Z = 2 ^ (-p).toNat * 2 ^ (p + 1074).toNat := by rw [hZ]; exact (z_split (by clear h; omega)).symm
  rw [k] at h
  have hc : 0 < 2 ^ (p + 1074).toNat := Nat.two_pow_pos _
  generalize 2 ^ (p + 1074).toNat = C at *
  generalize 2 ^ (-p).toNat = A at *
  rw [Int.natCast_mul, ← Int.mul_assoc] at h
  have := Int.le_of_mul_le_mul_right h (by omega)
  simpa using this
/-- A number and one: no whole number that lies below is above it. -/
theorem add_one (x : Nat) (W : Int) (Z : Nat) (hZ : Z = Z74) (h : x % 9223372036854775808 < 9218868437227405312) (hW : W * (Z : Int) ≤ Fo.sv x + Z) :
    ∃ r, Ieee.double.add x 4607182418800017408 = some r ∧ ¬ Fo.isNaN r ∧ kyN W 0 ≤ Fo.ky r := by
  obtain ⟨b, m, p, T, e, q1, q2, p1, p2, hT⟩ := sum_one x false Z hZ h
  refine ⟨Ieee.double.nearest b m p, ?_, q2, ?_⟩
  · unfold Ieee.Format.add
    rw [read_one, e]
    rfl
  · rw [q1]
    apply ky_below W T p Z hZ p1 p2
    rw [hT]
    exact hW
theorem sub_one (x : Nat) (W : Int) (Z : Nat) (hZ : Z = Z74) (h : x % 9223372036854775808 < 9218868437227405312) (hW : Fo.sv x - Z ≤ W * (Z : Int)) :
    ∃ r, Ieee.double.sub x 4607182418800017408 = some r ∧ ¬ Fo.isNaN r ∧ Fo.ky r ≤ kyN W 0 := by
  obtain ⟨b, m, p, T, e, q1, q2, p1, p2, hT⟩ := sum_one x true Z hZ h
  refine ⟨Ieee.double.nearest b m p, ?_, q2, ?_⟩
  · unfold Ieee.Format.sub
    rw [read_one]
    show Option.map _ ((Ieee.double.read x).sum (.number true 4503599627370496 (-52))) = _
    rw [e]
    rfl
  · rw [q1]
    apply ky_above W T p Z hZ p1 p2
    rw [hT]
    simp only [if_true]
    exact hW
end Go.Proofs.YtgjhbolnnnibkaaGreatDoor.Li
set_option linter.unusedVariables false
set_option linter.unusedSimpArgs false
namespace Go.Proofs.YtgjhbolnnnibkaaGreatDoor.Li
open Go.RowKit Lb Nr
/-- The sign turned. -/
theorem flip_parts (b : Nat) (hb : b < 18446744073709551616) : (b ^^^ 9223372036854775808) < 18446744073709551616 ∧ (b ^^^ 9223372036854775808) % 9223372036854775808 = b % 9223372036854775808 ∧ pNeg (b ^^^ 9223372036854775808) = !(pNeg b) := by
  have h1 : (b ^^^ 2 ^ 63) % 2 ^ 63 = b % 2 ^ 63 := by
    rw [Nat.xor_mod_two_pow, Nat.mod_self, Nat.xor_zero]
  have h2 : (b ^^^ 2 ^ 63) / 2 ^ 63 = b / 2 ^ 63 ^^^ 1 := by
    rw [Nat.xor_div_two_pow, Nat.div_self (Nat.two_pow_pos _)]
  rw [show (2 : Nat) ^ 63 = 9223372036854775808 from rfl] at h1 h2
  unfold pNeg
  generalize b ^^^ 9223372036854775808 = c at *
  have h3 : b / 9223372036854775808 = 0 ∨ b / 9223372036854775808 = 1 := by omega
  rcases h3 with h3 | h3
  · rw [h3, show (0 ^^^ 1 : Nat) = 1 from rfl] at h2
    refine ⟨by omega, h1, ?_⟩
    rw [decide_eq_true (by omega), decide_eq_false (by omega)]
    rfl
  · rw [h3, show (1 ^^^ 1 : Nat) = 0 from rfl] at h2
    refine ⟨by omega, h1, ?_⟩
    rw [decide_eq_false (by omega), decide_eq_true (by omega)]
    rfl
theorem parts_mod {b c : Nat} (h : c % 9223372036854775808 = b % 9223372036854775808) : pKind c = pKind b ∧ nR c = nR b := by
  have e1 : pField c = pField b := by unfold pField; omega
  have e2 : pKept c = pKept b := by unfold pKept; omega
  have e3 : pM c = pM b := by unfold pM; rw [e1, e2]
  have e4 : pE c = pE b := by unfold pE; rw [e1, e2]
  refine ⟨by unfold pKind; rw [e1, e2], ?_⟩
  unfold nR nX nY
  rw [e3, e4]
theorem kinds (b : Nat) : (b % 9223372036854775808 < 9218868437227405312 → pKind b < 3) ∧ (b % 9223372036854775808 = 9218868437227405312 → pKind b = 3) ∧ (9218868437227405312 < b % 9223372036854775808 → pKind b = 4) := by
  have e1 : b % 9223372036854775808 / 4503599627370496 = pField b := by unfold pField; omega
  have e2 : b % 9223372036854775808 % 4503599627370496 = pKept b := by unfold pKept; omega
  have hr := Nat.mod_lt b (show 0 < 9223372036854775808 by omega)
  unfold pKind
  rw [← e1, ← e2]
  clear e1 e2
  generalize b % 9223372036854775808 = r at *
  refine ⟨fun h => ?_, fun h => ?_, fun h => ?_⟩
  · rw [if_neg (by omega)]
    split
    · omega
    · split <;> omega
  · rw [if_pos (by omega), if_pos (by omega)]
  · rw [if_pos (by omega), if_neg (by omega)]
theorem near_nan (b : Nat) (h : Fo.isNaN b) : nE b = 60 ∧ nV b = 0 := by
  have := (kinds b).2.2 h
  unfold nE nV
  rw [this]
  exact ⟨rfl, rfl⟩
theorem near_err (b : Nat) (h : ¬ Fo.isNaN b) : nE b = 0 ∨ (nE b = 41 ∧ nV b = 0) := by
  unfold Fo.isNaN at h
  rcases Nat.lt_or_eq_of_le (Nat.not_lt.1 h) with c | c
  · have k := (kinds b).1 c
    unfold nE nV
    rw [if_neg (by omega), if_neg (by omega), if_neg (by omega), if_neg (by omega)]
    unfold Go.Proofs.YtgjhbolnnnibkaaGreatDoor.sgE Go.Proofs.YtgjhbolnnnibkaaGreatDoor.sgV
    split
    · exact .inl rfl
    · split
      · exact .inl rfl
      · exact .inr ⟨rfl, rfl⟩
  · have k := (kinds b).2.1 c
    unfold nE nV
    rw [k]
    exact .inr ⟨rfl, rfl⟩
theorem near_big (b : Nat) (h : ¬ Fo.isNaN b) (h2 : 4801095203149578240 < b % 9223372036854775808) : nE b = 41 ∧ nV b = 0 := by
  unfold Fo.isNaN at h
  rcases Nat.lt_or_eq_of_le (Nat.not_lt.1 h) with c | c
  · have k := (kinds b).1 c
    have q := nR_above k (by omega)
    unfold nE nV
    rw [if_neg (by omega), if_neg (by omega), if_neg (by omega), if_neg (by omega)]
    unfold Go.Proofs.YtgjhbolnnnibkaaGreatDoor.sgE Go.Proofs.YtgjhbolnnnibkaaGreatDoor.sgV
    rw [if_neg (by omega), if_neg (by omega), if_neg (by omega), if_neg (by omega)]
    exact ⟨rfl, rfl⟩
  · have k := (kinds b).2.1 c
    unfold nE nV
    rw [k]
    exact ⟨rfl, rfl⟩
theorem near_ok (b : Nat) (h2 : b % 9223372036854775808 < 4801044003149578240) : nE b = 0 := by
  have k := (kinds b).1 (by omega)
  have q := nR_below k (by omega)
  unfold nE
  rw [if_neg (by omega), if_neg (by omega)]
  unfold Go.Proofs.YtgjhbolnnnibkaaGreatDoor.sgE
  cases pNeg b
  · rw [if_neg (by simp), if_pos ⟨rfl, q⟩]
  · rw [if_pos ⟨rfl, by omega⟩]
/-- The number turned. -/
theorem near_neg (b : Nat) (hb : b < 18446744073709551616) (h : ¬ Fo.isNaN b) (he : nE b = 0) : nE (b ^^^ 9223372036854775808) = 41 ∨ (nE (b ^^^ 9223372036854775808) = 0 ∧ nV (b ^^^ 9223372036854775808) = -(nV b) ∧ wrap64 (-(nV b)) = -(nV b)) := by
  obtain ⟨f1, f2, f3⟩ := flip_parts b hb
  obtain ⟨g1, g2⟩ := parts_mod f2
  unfold Fo.isNaN at h
  rcases Nat.lt_or_eq_of_le (Nat.not_lt.1 h) with c | c
  · have k := (kinds b).1 c
    unfold nE nV at *
    rw [g1, g2, f3]
    rw [if_neg (by omega), if_neg (by omega)] at he
    rw [if_neg (by omega), if_neg (by omega), if_neg (by omega), if_neg (by omega), if_neg (by omega), if_neg (by omega)]
    clear f3 g2
    generalize nR b = R at *
    generalize pNeg b = ng at *
    unfold Go.Proofs.YtgjhbolnnnibkaaGreatDoor.sgE Go.Proofs.YtgjhbolnnnibkaaGreatDoor.sgV at *
    cases ng
    · simp only [Bool.not_false, Bool.false_eq_true, false_and, if_false, true_and, reduceCtorEq] at he ⊢
      by_cases d : R < 9223372036854775808
      · right
        rw [if_pos (by omega), if_pos (by omega), if_pos d]
        refine ⟨rfl, rfl, ?_⟩
        simp only [wrap64]; omega
      · rw [if_neg d] at he; omega
    · simp only [Bool.not_true, Bool.false_eq_true, false_and, if_false, true_and, reduceCtorEq] at he ⊢
      by_cases d : R ≤ 9223372036854775808
      · by_cases d2 : R < 9223372036854775808
        · right
          rw [if_pos d2, if_pos d2, if_pos d]
          refine ⟨rfl, by omega, ?_⟩
          simp only [wrap64]; omega
        · left
          rw [if_neg d2]
      · rw [if_neg d] at he; omega
  · have k := (kinds b).2.1 c
    unfold nE at he
    rw [k, if_neg (by omega), if_pos rfl] at he
    omega
theorem few_worth (r : Nat) (h : r ≤ 4741671816366391296) : Fo.mg r * 1000000 < 9007199254740992 * Z74 := by
  have a : Fo.mg 4741671816366391296 * 1000000 < 9007199254740992 * Z74 := by decide +kernel
  have b : Fo.mg r ≤ Fo.mg 4741671816366391296 := by
    rcases Nat.lt_or_eq_of_le h with k | k
    · exact Nat.le_of_lt (Fo.mg_lt k)
    · rw [k]; exact Nat.le_refl _
  exact Nat.lt_of_le_of_lt (Nat.mul_le_mul_right _ b) a
/-- Where the amount is a thousand millions at most: half a millionth at most. -/
theorem near_mid (b : Nat) (hb : b < 18446744073709551616) (h : b % 9223372036854775808 ≤ 4741671816366391296) :
    ∃ p q r, Ieee.double.mul b 4696837146684686336 = some p ∧ Ieee.double.add p 4607182418800017408 = some q ∧ Ieee.double.sub p 4607182418800017408 = some r ∧ ¬ Fo.isNaN q ∧ ¬ Fo.isNaN r ∧ kyN (nV b) 0 ≤ Fo.ky q ∧ Fo.ky r ≤ kyN (nV b) 0 := by
  have k := (kinds b).1 (by omega)
  have few := nR_few k h
  obtain ⟨g, m1, m2, m3, m4⟩ := mul_mil b (by omega) (few_worth _ h)
  have hR := nR_mg b k
  have hz : 0 < Z74 := z_pos
  obtain ⟨r1, r2⟩ := rup_half (Fo.mg (b % 9223372036854775808) * 1000000) Z74 hz
  rw [← hR] at r1 r2
  obtain ⟨Z, hZ⟩ : ∃ Z : Nat, Z = Z74 := ⟨_, rfl⟩
  rw [← hZ] at m3 m4 r1 r2
  have hsn : pNeg b = Fo.negB b := by
    unfold pNeg Fo.negB
    by_cases c : 9223372036854775808 ≤ b
    · rw [decide_eq_true c, show b / 9223372036854775808 % 2 = 1 by clear m3 m4 r1 r2 hR; omega]; rfl
    · rw [decide_eq_false c, show b / 9223372036854775808 % 2 = 0 by clear m3 m4 r1 r2 hR; omega]; rfl
  have hV : nV b = if Fo.negB b then -(nR b : Int) else (nR b : Int) := by
    unfold nV
    rw [if_neg (by clear m3 m4 r1 r2 hR; omega), if_neg (by clear m3 m4 r1 r2 hR; omega), hsn]
    unfold Go.Proofs.YtgjhbolnnnibkaaGreatDoor.sgV
    cases Fo.negB b
    · rw [if_neg (by simp), if_pos ⟨rfl, by clear m3 m4 r1 r2 hR; omega⟩]; rfl
    · rw [if_pos ⟨rfl, by clear m3 m4 r1 r2 hR; omega⟩]; rfl
  have hp : (g + sg (Fo.negB b)) % 9223372036854775808 = g ∧ Fo.negB (g + sg (Fo.negB b)) = Fo.negB b := by
    clear m3 m4 r1 r2 hR hV m1
    have hsg : ∀ x : Bool, sg x = if x then 9223372036854775808 else 0 := fun _ => rfl
    rw [hsg]
    cases Fo.negB b
    · simp only [Bool.false_eq_true, if_false, Nat.add_zero]
      refine ⟨by omega, ?_⟩
      unfold Fo.negB
      rw [show g / 9223372036854775808 % 2 = 0 by omega]; rfl
    · simp only [if_true]
      refine ⟨by omega, ?_⟩
      unfold Fo.negB
      rw [show (g + 9223372036854775808) / 9223372036854775808 % 2 = 1 by omega]; rfl
  have hsv : Fo.sv (g + sg (Fo.negB b)) = if Fo.negB b then -(Fo.mg g : Int) else (Fo.mg g : Int) := by
    unfold Fo.sv
    rw [hp.1, hp.2]
  have hfin : (g + sg (Fo.negB b)) % 9223372036854775808 < 9218868437227405312 := by rw [hp.1]; exact m2
  have hab : nV b * (Z : Int) ≤ Fo.sv (g + sg (Fo.negB b)) + Z ∧ Fo.sv (g + sg (Fo.negB b)) - Z ≤ nV b * (Z : Int) := by
    rw [hV, hsv]
    generalize nR b = R at *
    generalize Fo.mg (b % 9223372036854775808) * 1000000 = G at *
    generalize Fo.mg g = A at *
    have q1 : ((R * Z : Nat) : Int) = (R : Int) * (Z : Int) := Int.natCast_mul _ _
    clear hZ hz hR
    cases Fo.negB b
    · simp only [Bool.false_eq_true, if_false]
      rw [← q1]
      generalize R * Z = Y at *
      omega
    · simp only [if_true]
      rw [Int.neg_mul, ← q1]
      generalize R * Z = Y at *
      omega
  obtain ⟨q, a1, a2, a3⟩ := add_one _ (nV b) Z hZ hfin hab.1
  obtain ⟨r, c1, c2, c3⟩ := sub_one _ (nV b) Z hZ hfin hab.2
  exact ⟨_, q, r, m1, a1, c1, a2, c2, a3, c3⟩
/-- Of any finite number: the three are numbers, or infinite. -/
theorem word_ok (s : Bool) (m : Nat) (i : Int) : ¬ Fo.isNaN (Ieee.double.nearest s m i) := by
  obtain ⟨a, b⟩ := nearest_sg s m i
  rw [a]
  exact (ky_of _ s b).2.1
theorem inf_ok (s : Bool) : ¬ Fo.isNaN (Ieee.double.write (.infinity s)) := by cases s <;> decide +kernel
theorem sum_some (p : Nat) (t : Bool) (h : ¬ Fo.isNaN p) : ∃ d, (Ieee.double.read p).sum (.number t 4503599627370496 (-52)) = some d ∧ ¬ Fo.isNaN (Ieee.double.write d) := by
  unfold Fo.isNaN at h
  rw [Fo.read_eq]
  by_cases c : p % 9223372036854775808 < 9218868437227405312
  · rw [if_pos c]
    exact ⟨_, rfl, word_ok _ _ _⟩
  · rw [if_neg c, if_pos (by omega)]
    exact ⟨_, rfl, inf_ok _⟩
theorem near_far (b : Nat) (h : b % 9223372036854775808 < 9218868437227405312) :
    ∃ p q r, Ieee.double.mul b 4696837146684686336 = some p ∧ Ieee.double.add p 4607182418800017408 = some q ∧ Ieee.double.sub p 4607182418800017408 = some r ∧ ¬ Fo.isNaN q ∧ ¬ Fo.isNaN r := by
  obtain ⟨m, i, e, _⟩ := read_fin b h
  have hm : Ieee.double.mul b 4696837146684686336 = some (Ieee.double.nearest (Fo.negB b) (m * 8589934592000000) (i + -33)) := by
    unfold Ieee.Format.mul
    rw [e, read_million]
    simp only [Ieee.Datum.product, Option.map_some, Ieee.Format.write, Bool.xor_false]
  have hp := word_ok (Fo.negB b) (m * 8589934592000000) (i + -33)
  obtain ⟨d, d1, d2⟩ := sum_some _ false hp
  obtain ⟨f, f1, f2⟩ := sum_some _ true hp
  refine ⟨_, _, _, hm, ?_, ?_, d2, f2⟩
  · unfold Ieee.Format.add
    rw [read_one, d1]; rfl
  · unfold Ieee.Format.sub
    rw [read_one]
    show Option.map _ ((Ieee.double.read _).sum (.number true 4503599627370496 (-52))) = _
    rw [f1]; rfl
end Go.Proofs.YtgjhbolnnnibkaaGreatDoor.Li
set_option linter.unusedVariables false
set_option linter.unusedSimpArgs false
namespace Go.Proofs.YtgjhbolnnnibkaaGreatDoor.Li
open Go.RowKit Lb Nr
/-- How two numbers stand to each other, by their keys. -/
theorem ord_of (x y : Nat) (hx : ¬ Fo.isNaN x) (hy : ¬ Fo.isNaN y) (o : Ordering) (h : compare (Fo.ky x) (Fo.ky y) = o) : FloatKind.f64.format.order x y = some o := by
  show Ieee.double.order x y = _
  rw [Fo.order_ky x y hx hy, h]
theorem ky_mod (b : Nat) (hb : b < 18446744073709551616) : Fo.ky b = (if pNeg b then -((b % 9223372036854775808 : Nat) : Int) else ((b % 9223372036854775808 : Nat) : Int)) := by
  unfold Fo.ky
  have hsn : pNeg b = Fo.negB b := by
    unfold pNeg Fo.negB
    by_cases c : 9223372036854775808 ≤ b
    · rw [decide_eq_true c, show b / 9223372036854775808 % 2 = 1 by omega]; rfl
    · rw [decide_eq_false c, show b / 9223372036854775808 % 2 = 0 by omega]; rfl
  rw [hsn]
/-- How a number stands to a constant's two signs. -/
structure Stand (b c : Nat) (o1 o2 : Ordering) : Prop where
  neg : FloatKind.f64.format.order b (c + 9223372036854775808) = some o1
  pos : FloatKind.f64.format.order b c = some o2
theorem stand_of (b c : Nat) (hb : b < 18446744073709551616) (h : ¬ Fo.isNaN b) (hc0 : 0 < c) (hc : c < 9218868437227405312) :
    (b % 9223372036854775808 > c → (FloatKind.f64.format.order b (c + 9223372036854775808) = some .lt ∧ FloatKind.f64.format.order b c = some .lt) ∨ (FloatKind.f64.format.order b (c + 9223372036854775808) = some .gt ∧ FloatKind.f64.format.order b c = some .gt)) ∧
    (b % 9223372036854775808 < c → FloatKind.f64.format.order b (c + 9223372036854775808) = some .gt ∧ FloatKind.f64.format.order b c = some .lt) ∧
    (b % 9223372036854775808 = c → (FloatKind.f64.format.order b (c + 9223372036854775808) = some .eq ∧ FloatKind.f64.format.order b c = some .lt) ∨ (FloatKind.f64.format.order b (c + 9223372036854775808) = some .gt ∧ FloatKind.f64.format.order b c = some .eq)) := by
  have n1 : ¬ Fo.isNaN (c + 9223372036854775808) := by unfold Fo.isNaN; omega
  have n2 : ¬ Fo.isNaN c := by unfold Fo.isNaN; omega
  have k1 : Fo.ky (c + 9223372036854775808) = -(c : Int) := by
    rw [ky_mod _ (by omega)]
    unfold pNeg
    rw [decide_eq_true (by omega), show (c + 9223372036854775808) % 9223372036854775808 = c by omega]; rfl
  have k2 : Fo.ky c = (c : Int) := by
    rw [ky_mod _ (by omega)]
    unfold pNeg
    rw [decide_eq_false (by omega), show c % 9223372036854775808 = c by omega]; rfl
  have kb := ky_mod b hb
  generalize b % 9223372036854775808 = r at *
  refine ⟨fun q => ?_, fun q => ?_, fun q => ?_⟩
  · cases hn : pNeg b
    · right
      rw [hn] at kb
      simp only [Bool.false_eq_true, if_false] at kb
      exact ⟨ord_of _ _ h n1 _ (by rw [kb, k1, Int.compare_eq_gt]; omega), ord_of _ _ h n2 _ (by rw [kb, k2, Int.compare_eq_gt]; omega)⟩
    · left
      rw [hn] at kb
      simp only [if_true] at kb
      exact ⟨ord_of _ _ h n1 _ (by rw [kb, k1, Int.compare_eq_lt]; omega), ord_of _ _ h n2 _ (by rw [kb, k2, Int.compare_eq_lt]; omega)⟩
  · cases hn : pNeg b
    · rw [hn] at kb
      simp only [Bool.false_eq_true, if_false] at kb
      exact ⟨ord_of _ _ h n1 _ (by rw [kb, k1, Int.compare_eq_gt]; omega), ord_of _ _ h n2 _ (by rw [kb, k2, Int.compare_eq_lt]; omega)⟩
    · rw [hn] at kb
      simp only [if_true] at kb
      exact ⟨ord_of _ _ h n1 _ (by rw [kb, k1, Int.compare_eq_gt]; omega), ord_of _ _ h n2 _ (by rw [kb, k2, Int.compare_eq_lt]; omega)⟩
  · cases hn : pNeg b
    · right
      rw [hn] at kb
      simp only [Bool.false_eq_true, if_false] at kb
      exact ⟨ord_of _ _ h n1 _ (by rw [kb, k1, Int.compare_eq_gt]; omega), ord_of _ _ h n2 _ (by rw [kb, k2, Int.compare_eq_eq]; omega)⟩
    · left
      rw [hn] at kb
      simp only [if_true] at kb
      exact ⟨ord_of _ _ h n1 _ (by rw [kb, k1, Int.compare_eq_eq]; omega), ord_of _ _ h n2 _ (by rw [kb, k2, Int.compare_eq_lt]; omega)⟩
theorem cmp_one (x y : Nat) (hx : ¬ Fo.isNaN x) (hy : ¬ Fo.isNaN y) : ∃ o, FloatKind.f64.format.order x y = some o := ⟨_, ord_of x y hx hy _ rfl⟩
theorem cmp_le (x y : Nat) (hx : ¬ Fo.isNaN x) (hy : ¬ Fo.isNaN y) (h : Fo.ky x ≤ Fo.ky y) : FloatKind.f64.format.order x y = some .lt ∨ FloatKind.f64.format.order x y = some .eq := by
  rcases Int.lt_or_eq_of_le h with c | c
  · exact .inl (ord_of x y hx hy _ (Int.compare_eq_lt.2 c))
  · exact .inr (ord_of x y hx hy _ (Int.compare_eq_eq.2 c))
theorem cmp_ge (x y : Nat) (hx : ¬ Fo.isNaN x) (hy : ¬ Fo.isNaN y) (h : Fo.ky y ≤ Fo.ky x) : FloatKind.f64.format.order x y = some .gt ∨ FloatKind.f64.format.order x y = some .eq := by
  rcases Int.lt_or_eq_of_le h with c | c
  · exact .inl (ord_of x y hx hy _ (Int.compare_eq_gt.2 c))
  · exact .inr (ord_of x y hx hy _ (Int.compare_eq_eq.2 c.symm))
end Go.Proofs.YtgjhbolnnnibkaaGreatDoor.Li
