import Ieee.Arith
import Derived.Test.YtpdjpjkieafnbaaGreatDoorR12
import Derived.Test.YtpdjpjkieafnbaaGreatDoorNC10
import Derived.Test.YtpdjpjkieafnbaaGreatDoorSH8
namespace Go.Proofs.YtpdjpjkieafnbaaGreatDoor.Fo
/-- A word's sign and amount. -/
def negB (x : Nat) : Bool := x / 9223372036854775808 % 2 == 1
/-- The key, counted from nought's. -/
def ky (x : Nat) : Int := if negB x then -((x % 9223372036854775808 : Nat) : Int) else ((x % 9223372036854775808 : Nat) : Int)
@[reducible] def isNaN (x : Nat) : Prop := 9218868437227405312 < x % 9223372036854775808
theorem read_eq (x : Nat) : Ieee.double.read x = if x % 9223372036854775808 < 9218868437227405312 then .number (negB x) (if x % 9223372036854775808 < 4503599627370496 then x % 9223372036854775808 else 4503599627370496 + x % 9223372036854775808 % 4503599627370496) (-1074 + ((x % 9223372036854775808 / 4503599627370496 - 1 : Nat) : Int))
    else if x % 9223372036854775808 = 9218868437227405312 then .infinity (negB x) else .nan (negB x) (x % 9223372036854775808 - 9218868437227405312) := by
  have e1 : Ieee.double.signWeight = 9223372036854775808 := by decide
  have e2 : Ieee.double.binade = 4503599627370496 := by decide
  have e3 : Ieee.double.infRung = 9218868437227405312 := by decide
  have e4 : Ieee.double.leastPlace = -1074 := by decide
  unfold Ieee.Format.read
  simp only [e1, e2, e3, e4]
  change (if _ then Ieee.Datum.number (negB x) _ _ else _) = _
  by_cases h1 : x % 9223372036854775808 < 4503599627370496
  · rw [if_pos h1, if_pos (by omega), if_pos h1, Nat.div_eq_of_lt h1]; rfl
  · rw [if_neg h1]
    by_cases h2 : x % 9223372036854775808 < 9218868437227405312
    · rw [if_pos h2, if_pos h2, if_neg h1]; rfl
    · rw [if_neg h2, if_neg h2]; rfl
end Go.Proofs.YtpdjpjkieafnbaaGreatDoor.Fo
set_option linter.unusedVariables false
set_option linter.unusedSimpArgs false
namespace Go.Proofs.YtpdjpjkieafnbaaGreatDoor.Li
open Nr
/-- A rounded quotient lies half a unit away at most; as far only where it is even. -/
theorem rup_half (x y : Nat) (hy : 0 < y) : 2 * (Nr.rup x y * y) ≤ 2 * x + y ∧ 2 * x ≤ 2 * (Nr.rup x y * y) + y ∧ (2 * (Nr.rup x y * y) = 2 * x + y ∨ 2 * x = 2 * (Nr.rup x y * y) + y → Nr.rup x y % 2 = 0) := by
  have e := Nat.div_add_mod x y
  have l := Nat.mod_lt x hy
  rw [Nat.mul_comm] at e
  unfold Nr.rup
  split
  · rename_i h
    rw [Nat.add_mul, Nat.one_mul]
    generalize x / y * y = q at *
    omega
  · rename_i h
    generalize x / y * y = q at *
    omega
end Go.Proofs.YtpdjpjkieafnbaaGreatDoor.Li
set_option linter.unusedVariables false
set_option linter.unusedSimpArgs false
namespace Go.Proofs.YtpdjpjkieafnbaaGreatDoor.Li
open Go.RowKit Lb Nr
/-- The parts of a number's bits, out of what was rounded. -/
theorem parts_wb {M : Nat} {E : Int} {x : Nat} (hx : x = wb M E) (hM : M ≤ 9007199254740992) (hE : -1074 ≤ E) (hs : M < 4503599627370496 → E = -1074) (hk : pKind x = 1 ∨ pKind x = 2) (hx2 : x < 9218868437227405312) :
    (M < 9007199254740992 ∧ pM x = M ∧ pE x = E) ∨ (M = 9007199254740992 ∧ pM x = 4503599627370496 ∧ pE x = E + 1) := by
  have hf := hx
  unfold wb at hf
  have hx3 : x = if 4503599627370496 ≤ M then M + (E + 1074).toNat * 4503599627370496 else M := by
    rw [hf]
    rw [hf] at hx2
    split <;> split at hx2 <;> omega
  clear hf hx
  obtain ⟨K, hK⟩ : ∃ K : Nat, (E + 1074).toNat = K := ⟨_, rfl⟩
  rw [hK] at hx3
  have hEK : E = (K : Int) - 1074 := by omega
  by_cases c1 : M < 4503599627370496
  · have hE2 := hs c1
    rw [if_neg (by omega)] at hx3
    subst hx3
    have f0 : pField x = 0 := by unfold pField; omega
    have k0 : pKept x = x := by unfold pKept; omega
    have hx0 : 0 < x := by
      unfold pKind at hk
      rw [f0, k0] at hk
      rcases Nat.eq_zero_or_pos x with q | q
      · rw [q] at hk; simp at hk
      · exact q
    refine .inl ⟨by omega, ?_, ?_⟩
    · unfold pM; rw [f0, if_neg (by omega), k0]
    · unfold pE; rw [f0, if_neg (by omega), if_neg (by omega), k0, if_pos hx0, hE2]
  · rw [if_pos (by omega)] at hx3
    by_cases c2 : M < 9007199254740992
    · have f0 : pField x = K + 1 := by unfold pField; omega
      have k0 : pKept x = M - 4503599627370496 := by unfold pKept; omega
      refine .inl ⟨c2, ?_, ?_⟩
      · unfold pM; rw [f0, if_pos (by omega), k0]; omega
      · unfold pE; rw [f0, if_neg (by omega), if_pos (by omega)]; omega
    · have hM2 : M = 9007199254740992 := by omega
      have f0 : pField x = K + 2 := by unfold pField; omega
      have k0 : pKept x = 0 := by unfold pKept; omega
      refine .inr ⟨hM2, ?_, ?_⟩
      · unfold pM; rw [f0, if_pos (by omega), k0]
      · unfold pE; rw [f0, if_neg (by omega), if_pos (by omega)]; omega
theorem quart_eq (N D : Nat) (e : Int) : sA N e * (sB D (e - 2) * 4) = sA N (e - 2) * sB D e := by
  have h := ratio N D (e - 2) 2
  rw [show e - 2 + ((2 : Nat) : Int) = e by omega] at h
  exact h
/-- Where a quotient lies that is read as a number: between the borders, at them if the number is even. -/
theorem quart {N D x : Nat} (hN : 0 < N) (hD : 0 < D) (h : NB N D x) (hx2 : x < 9218868437227405312) (hk : pKind x = 1 ∨ pKind x = 2) :
    bDn (pM x) (pE x) * sB D (pE x - 2) ≤ sA N (pE x - 2) ∧ (bDn (pM x) (pE x) * sB D (pE x - 2) = sA N (pE x - 2) → pM x % 2 = 0) ∧ sA N (pE x - 2) ≤ (4 * pM x + 2) * sB D (pE x - 2) ∧ (sA N (pE x - 2) = (4 * pM x + 2) * sB D (pE x - 2) → pM x % 2 = 0) := by
  obtain ⟨E, hE⟩ := exE hN hD
  have hx : x = wb (Nr.rup (sA N E) (sB D E)) E := h.2 hN E hE
  obtain ⟨s1, s2⟩ := small_E hD hE
  obtain ⟨r1, r2, r3⟩ := rup_half (sA N E) (sB D E) (sB_pos hD E)
  obtain ⟨i1, i2, i3⟩ := hE
  obtain ⟨M, hM⟩ : ∃ M, Nr.rup (sA N E) (sB D E) = M := ⟨_, rfl⟩
  rw [hM] at hx s1 s2 r1 r2 r3
  clear hM
  have hp := parts_wb hx s1 i1 s2 hk hx2
  have hY := sB_pos hD E
  have hB := sB_pos hD (pE x - 2)
  unfold fl at i2
  rcases hp with ⟨c, p1, p2⟩ | ⟨c, p1, p2⟩
  · rw [p1, p2]
    rw [p2] at hB
    have hq := quart_eq N D E
    have hlow : 2 * (M * sB D E) ≤ 2 * sA N E + sB D E := r1
    by_cases c2 : M = 4503599627370496 ∧ -1074 < E
    · have hb : bDn M E = 4 * M - 1 := by unfold bDn; rw [if_pos c2]; omega
      have hfl : 9007199254740992 ≤ fl N D (E - 1) := by
        rcases i3 with q | q
        · omega
        · exact q
      have hfa := fl_add hD (E - 1) 1 (N := N)
      rw [show E - 1 + ((1 : Nat) : Int) = E by omega] at hfa
      have hfE : M ≤ fl N D E := by
        rw [hfa, c2.1]
        show 4503599627370496 ≤ _ / 2
        omega
      have hge : M * sB D E ≤ sA N E := by
        unfold fl at hfE
        rw [Nat.le_div_iff_mul_le hY] at hfE
        exact hfE
      have hA : 4 * M * sB D (E - 2) ≤ sA N (E - 2) := by
        apply Nat.le_of_mul_le_mul_right _ hY
        rw [← hq]
        calc 4 * M * sB D (E - 2) * sB D E = M * sB D E * (sB D (E - 2) * 4) := by ac_rfl
          _ ≤ sA N E * (sB D (E - 2) * 4) := Nat.mul_le_mul_right _ hge
      have hlt : bDn M E * sB D (E - 2) < 4 * M * sB D (E - 2) := Nat.mul_lt_mul_of_pos_right (by rw [hb]; omega) hB
      refine ⟨by omega, fun q => absurd q (by omega), ?_, fun q => by rw [c2.1]⟩
      apply Nat.le_of_mul_le_mul_right _ hY
      rw [← hq]
      have e1 : (4 * M + 2) * sB D (E - 2) * sB D E = (2 * (M * sB D E) + sB D E) * (sB D (E - 2) * 2) := by
        rw [show (4 * M + 2) = 2 * (2 * M + 1) by omega, show 2 * (M * sB D E) + sB D E = (2 * M + 1) * sB D E by rw [Nat.add_mul, Nat.one_mul, Nat.mul_assoc]]
        ac_rfl
      rw [e1]
      calc sA N E * (sB D (E - 2) * 4) = 2 * sA N E * (sB D (E - 2) * 2) := by rw [show (4 : Nat) = 2 * 2 from rfl]; ac_rfl
        _ ≤ _ := Nat.mul_le_mul_right _ r2
    · have hM0 : 0 < M := by
        have := (kind_parts hk).1
        omega
      have hb : bDn M E = 4 * M - 2 := by unfold bDn; rw [if_neg c2]; rfl
      have e0 : bDn M E * sB D (E - 2) * sB D E = (2 * M - 1) * sB D E * (sB D (E - 2) * 2) := by
        rw [hb, show 4 * M - 2 = 2 * (2 * M - 1) by omega]
        ac_rfl
      have e1 : (4 * M + 2) * sB D (E - 2) * sB D E = (2 * (M * sB D E) + sB D E) * (sB D (E - 2) * 2) := by
        rw [show (4 * M + 2) = 2 * (2 * M + 1) by omega, show 2 * (M * sB D E) + sB D E = (2 * M + 1) * sB D E by rw [Nat.add_mul, Nat.one_mul, Nat.mul_assoc]]
        ac_rfl
      have e2 : sA N (E - 2) * sB D E = 2 * sA N E * (sB D (E - 2) * 2) := by
        rw [← hq, show (4 : Nat) = 2 * 2 from rfl]
        ac_rfl
      have e3 : (2 * M - 1) * sB D E + sB D E = 2 * (M * sB D E) := by
        rw [← Nat.succ_mul, show (2 * M - 1).succ = 2 * M by omega, Nat.mul_assoc]
      have hB2 : 0 < sB D (E - 2) * 2 := by omega
      refine ⟨?_, fun q => ?_, ?_, fun q => ?_⟩
      · apply Nat.le_of_mul_le_mul_right _ hY
        rw [e0, e2]
        exact Nat.mul_le_mul_right _ (by omega)
      · apply r3
        left
        have q2 : (2 * M - 1) * sB D E * (sB D (E - 2) * 2) = 2 * sA N E * (sB D (E - 2) * 2) := by rw [← e0, ← e2, q]
        have q3 := Nat.eq_of_mul_eq_mul_right hB2 q2
        omega
      · apply Nat.le_of_mul_le_mul_right _ hY
        rw [e1, e2]
        exact Nat.mul_le_mul_right _ r2
      · apply r3
        right
        have q2 : 2 * sA N E * (sB D (E - 2) * 2) = (2 * (M * sB D E) + sB D E) * (sB D (E - 2) * 2) := by rw [← e1, ← e2, q]
        exact Nat.eq_of_mul_eq_mul_right hB2 q2
  · have hb : bDn 4503599627370496 (E + 1) = 18014398509481983 := by unfold bDn; rw [if_pos ⟨rfl, by omega⟩]
    rw [p1, p2, hb]
    rw [p2] at hB
    have hq := quart_eq N D E
    have hr := ratio N D (E - 2) 1
    rw [show E - 2 + ((1 : Nat) : Int) = E + 1 - 2 by omega] at hr
    subst c
    have hB0 := sB_pos hD (E - 2)
    -- A = sA N (E - 1), B = sB D (E - 1): A / B = 2 * (X / Y)
    have h2 : sA N E * (sB D (E + 1 - 2) * 2) = sA N (E + 1 - 2) * sB D E := by
      have h := ratio N D (E + 1 - 2) 1
      rw [show E + 1 - 2 + ((1 : Nat) : Int) = E by omega] at h
      exact h
    have hlt : sA N E < 9007199254740992 * sB D E := by
      rw [Nat.div_lt_iff_lt_mul hY] at i2
      exact i2
    refine ⟨?_, fun _ => rfl, ?_, fun _ => rfl⟩
    · apply Nat.le_of_mul_le_mul_right _ hY
      rw [← h2]
      have e3 : 18014398509481983 * sB D (E + 1 - 2) * sB D E = (18014398509481983 * sB D E) * sB D (E + 1 - 2) := by ac_rfl
      have e4 : sA N E * (sB D (E + 1 - 2) * 2) = (2 * sA N E) * sB D (E + 1 - 2) := by ac_rfl
      rw [e3, e4]
      exact Nat.mul_le_mul_right _ (by omega)
    · apply Nat.le_of_mul_le_mul_right _ hY
      rw [← h2]
      have e3 : (4 * 4503599627370496 + 2) * sB D (E + 1 - 2) * sB D E = ((4 * 4503599627370496 + 2) * sB D E) * sB D (E + 1 - 2) := by ac_rfl
      have e4 : sA N E * (sB D (E + 1 - 2) * 2) = (2 * sA N E) * sB D (E + 1 - 2) := by ac_rfl
      rw [e3, e4]
      exact Nat.mul_le_mul_right _ (by omega)
end Go.Proofs.YtpdjpjkieafnbaaGreatDoor.Li
set_option linter.unusedVariables false
set_option linter.unusedSimpArgs false
namespace Go.Proofs.YtpdjpjkieafnbaaGreatDoor.Li
open Go.RowKit Lb Nr
/-- The borders, said by cross products. -/
theorem lo_iff (m : Nat) (e t : Int) (M : Nat) : bLow m e t ≤ M ↔ (bDn m e * sNum e t < M * sDen e t ∨ (bDn m e * sNum e t = M * sDen e t ∧ m % 2 = 0)) := by
  unfold bLow ofQ ofX
  have hd := sDen_pos e t
  generalize bDn m e * sNum e t = A
  generalize sDen e t = D at *
  have hA := Nat.div_add_mod A D
  have hr := Nat.mod_lt A hd
  generalize A / D = q at *
  generalize A % D = r at *
  by_cases h0 : r = 0
  · subst h0
    by_cases he : m % 2 = 0
    · simp only [he, decide_true, Bool.not_true, Bool.or_false, Bool.false_eq_true, if_false, Nat.add_zero, and_true]
      rw [Nat.add_zero] at hA
      rw [← hA, Nat.mul_comm D q]
      constructor
      · intro h
        rcases Nat.lt_or_eq_of_le h with g | g
        · exact .inl (Nat.mul_lt_mul_of_pos_right g hd)
        · exact .inr (by rw [g])
      · rintro (h | h)
        · exact Nat.le_of_lt (Nat.lt_of_mul_lt_mul_right h)
        · exact Nat.le_of_eq (Nat.eq_of_mul_eq_mul_right hd h)
    · simp only [he, decide_true, decide_false, Bool.not_true, Bool.not_false, Bool.or_true, if_true, and_false, or_false]
      rw [Nat.add_zero] at hA
      rw [← hA, Nat.mul_comm D q]
      constructor
      · intro h
        exact Nat.mul_lt_mul_of_pos_right h hd
      · intro h
        exact Nat.lt_of_mul_lt_mul_right h
  · simp only [h0, decide_false, Bool.not_false, Bool.true_or, if_true]
    have key : q + 1 ≤ M ↔ A < M * D := by
      constructor
      · intro h
        have := Nat.mul_le_mul_right D h
        rw [Nat.add_mul, Nat.one_mul, Nat.mul_comm q D] at this
        omega
      · intro h
        rcases Nat.lt_or_ge q M with g | g
        · exact g
        · have := Nat.mul_le_mul_right D g
          rw [Nat.mul_comm q D] at this
          omega
    rw [key]
    constructor
    · exact .inl
    · rintro (h | ⟨h, -⟩)
      · exact h
      · exfalso
        have h2 : D ∣ D * q + r := by rw [hA, h]; exact Nat.dvd_mul_left D M
        have h3 : D ∣ r := (Nat.dvd_add_right (Nat.dvd_mul_right D q)).1 h2
        have := Nat.le_of_dvd (by omega) h3
        omega
theorem hi_iff (m : Nat) (e t : Int) (M : Nat) (h1 : 0 < ofQ e t (4 * m + 2)) : M ≤ bHi m e t ↔ (M * sDen e t < (4 * m + 2) * sNum e t ∨ (M * sDen e t = (4 * m + 2) * sNum e t ∧ m % 2 = 0)) := by
  unfold bHi ofX
  unfold ofQ at *
  have hd := sDen_pos e t
  generalize (4 * m + 2) * sNum e t = A at *
  generalize sDen e t = D at *
  have hA := Nat.div_add_mod A D
  have hr := Nat.mod_lt A hd
  generalize A / D = q at *
  generalize A % D = r at *
  by_cases h0 : r = 0
  · subst h0
    by_cases he : m % 2 = 0
    · simp only [he, decide_true, Bool.not_true, Bool.and_false, Bool.false_eq_true, if_false, Nat.sub_zero, and_true]
      rw [Nat.add_zero] at hA
      rw [← hA, Nat.mul_comm D q]
      constructor
      · intro h
        rcases Nat.lt_or_eq_of_le h with g | g
        · exact .inl (Nat.mul_lt_mul_of_pos_right g hd)
        · exact .inr (by rw [g])
      · rintro (h | h)
        · exact Nat.le_of_lt (Nat.lt_of_mul_lt_mul_right h)
        · exact Nat.le_of_eq (Nat.eq_of_mul_eq_mul_right hd h)
    · simp only [he, decide_true, decide_false, Bool.not_false, Bool.and_true, if_true, and_false, or_false]
      rw [Nat.add_zero] at hA
      rw [← hA, Nat.mul_comm D q]
      constructor
      · intro h
        exact Nat.mul_lt_mul_of_pos_right (by omega) hd
      · intro h
        have := Nat.lt_of_mul_lt_mul_right h
        omega
  · simp only [h0, decide_false, Bool.false_and, Bool.false_eq_true, if_false, Nat.sub_zero]
    have key : M ≤ q ↔ M * D < A := by
      constructor
      · intro h
        have := Nat.mul_le_mul_right D h
        rw [Nat.mul_comm q D] at this
        omega
      · intro h
        rcases Nat.lt_or_ge q M with g | g
        · have := Nat.mul_le_mul_right D g
          rw [Nat.succ_mul, Nat.mul_comm q D] at this
          omega
        · exact g
    rw [key]
    constructor
    · exact .inl
    · rintro (h | ⟨h, -⟩)
      · exact h
      · exfalso
        have h2 : D ∣ D * q + r := by rw [hA, ← h]; exact Nat.dvd_mul_left D M
        have h3 : D ∣ r := (Nat.dvd_add_right (Nat.dvd_mul_right D q)).1 h2
        have := Nat.le_of_dvd (by omega) h3
        omega
/-- What the greatest power of ten says. -/
theorem unK_top (lo hi : Nat) : ∀ k, (unK lo hi k = 0 ∨ lo ≤ hi / 10 ^ unK lo hi k * 10 ^ unK lo hi k) ∧ ∀ j, unK lo hi k < j → j ≤ k → hi / 10 ^ j * 10 ^ j < lo
  | 0 => ⟨.inl rfl, fun j h1 h2 => by simp [unK] at h1; omega⟩
  | k + 1 => by
    obtain ⟨a, b⟩ := unK_top lo hi k
    unfold unK
    by_cases c : hi / 10 ^ (k + 1) * 10 ^ (k + 1) < lo
    · rw [if_pos c]
      refine ⟨a, fun j h1 h2 => ?_⟩
      by_cases e : j = k + 1
      · rw [e]; exact c
      · exact b j h1 (by omega)
    · rw [if_neg c]
      exact ⟨.inr (by omega), fun j h1 h2 => by omega⟩
end Go.Proofs.YtpdjpjkieafnbaaGreatDoor.Li
set_option linter.unusedVariables false
set_option linter.unusedSimpArgs false
namespace Go.Proofs.YtpdjpjkieafnbaaGreatDoor.Li
open Go.RowKit Lb Nr
theorem mult_in {hi U d lo : Nat} (hU : 0 < U) (h1 : d * U ≤ hi) (h2 : lo ≤ d * U) : lo ≤ hi / U * U := by
  have : d ≤ hi / U := (Nat.le_div_iff_mul_le hU).2 h1
  exact Nat.le_trans h2 (Nat.mul_le_mul_right U this)
theorem div_up (V X : Nat) (h : 0 < X) : V < (V / X + 1) * X := by
  have a := Nat.div_add_mod V X
  have b := Nat.mod_lt V h
  rw [Nat.add_mul, Nat.one_mul, Nat.mul_comm]
  omega
/-- A number, its scale and its borders. -/
structure Sc3 (m : Nat) (e : Int) (lo hi N D A B V : Nat) : Prop where
  loI : ∀ M, lo ≤ M ↔ (A < M * D ∨ (A = M * D ∧ m % 2 = 0))
  hiI : ∀ M, M ≤ hi ↔ (M * D < B ∨ (M * D = B ∧ m % 2 = 0))
  dp : 0 < D
  np : 0 < N
  av : A < V
  vb : V < B
  wide : 3 * N + A ≤ B ∧ (4 * N + A ≤ B ∨ m = 4503599627370496)
  vm : V = 4 * m * N
  vl : 99000000000000000 * D ≤ V
  vh : V < 2100000000000000000 * D
  hb : hi < 3150000000000000000
  m0 : 0 < m
  mb : m < 9007199254740992
  a0 : 0 < A
theorem sc3_of {m : Nat} {e : Int} (hm0 : 0 < m) (hm : m < 9007199254740992) (he : -1074 ≤ e ∧ e ≤ 971) :
    Sc3 m e (bLow m e (tnF m e)) (bHi m e (tnF m e)) (sNum e (tnF m e)) (sDen e (tnF m e)) (bDn m e * sNum e (tnF m e)) ((4 * m + 2) * sNum e (tnF m e)) (4 * m * sNum e (tnF m e)) := by
  obtain ⟨b1, b2, -, b4⟩ := fw_bounds hm0 hm he
  obtain ⟨-, s1, s2⟩ := scale_ok hm0 hm he
  have hN := sNum_pos e (tnF m e)
  have hD := sDen_pos e (tnF m e)
  have hdn : bDn m e = 4 * m - 2 ∨ (bDn m e = 4 * m - 1 ∧ m = 4503599627370496) := by
    unfold bDn
    split
    · rename_i c
      right
      exact ⟨by omega, c.1⟩
    · left; rfl
  refine ⟨lo_iff m e _, fun M => hi_iff m e _ M (by omega), hD, hN, ?_, ?_, ?_, rfl, s1, s2, ?_, hm0, hm, ?_⟩
  · exact Nat.mul_lt_mul_of_pos_right (by omega) hN
  · exact Nat.mul_lt_mul_of_pos_right (by omega) hN
  · refine ⟨?_, ?_⟩
    · rw [← Nat.add_mul]
      exact Nat.mul_le_mul_right _ (by omega)
    · rcases hdn with q | q
      · left
        rw [← Nat.add_mul]
        exact Nat.mul_le_mul_right _ (by omega)
      · exact .inr q.2
  · exact Nat.lt_of_le_of_lt (Nat.sub_le _ _) b1
  · exact Nat.mul_pos (by omega) hN
/-- Where no multiple of U lies between the borders. -/
theorem Sc3.gap {m : Nat} {e : Int} {lo hi N D A B V : Nat} (h : Sc3 m e lo hi N D A B V) {U : Nat} (hU : 0 < U) (hno : hi / U * U < lo) : V < 9007199254740992 * U * D := by
  obtain ⟨j, hj⟩ : ∃ j, V / (D * U) = j := ⟨_, rfl⟩
  have hDU : 0 < D * U := Nat.mul_pos h.dp hU
  have h1 : j * U * D ≤ V := by
    rw [← hj, Nat.mul_assoc, Nat.mul_comm U D]
    exact Nat.div_mul_le_self _ _
  have h2 : V < (j + 1) * U * D := by
    rw [Nat.mul_assoc, Nat.mul_comm U D, ← hj]
    exact div_up V (D * U) hDU
  have c1 : j * U ≤ hi := (h.hiI _).2 (.inl (Nat.lt_of_le_of_lt h1 h.vb))
  have c2 : ¬ lo ≤ j * U := fun q => by have := mult_in hU c1 q; omega
  have c3 : j * U * D ≤ A := by
    rcases Nat.lt_or_ge A (j * U * D) with q | q
    · exact absurd ((h.loI _).2 (.inl q)) c2
    · exact q
  have c4 : lo ≤ (j + 1) * U := (h.loI _).2 (.inl (Nat.lt_trans h.av h2))
  have c5 : ¬ (j + 1) * U ≤ hi := fun q => by have := mult_in hU q c4; omega
  have c6 : B ≤ (j + 1) * U * D := by
    rcases Nat.lt_or_ge ((j + 1) * U * D) B with q | q
    · exact absurd ((h.hiI _).2 (.inl q)) c5
    · exact q
  have c7 : (j + 1) * U * D = j * U * D + U * D := by rw [Nat.add_mul, Nat.add_mul, Nat.one_mul]
  have w1 : B ≤ A + U * D := by omega
  obtain ⟨g1, g2⟩ := h.wide
  have g3 : 3 * N ≤ U * D := by omega
  rcases g2 with g2 | g2
  · have g4 : 4 * N ≤ U * D := by omega
    rw [h.vm]
    have : 4 * m * N = m * (4 * N) := by rw [Nat.mul_comm 4 m, Nat.mul_assoc]
    rw [this, Nat.mul_assoc]
    refine Nat.lt_of_le_of_lt (Nat.mul_le_mul_left m g4) ?_
    exact Nat.mul_lt_mul_of_pos_right h.mb (Nat.mul_pos hU h.dp)
  · have hUD : 0 < U * D := Nat.mul_pos hU h.dp
    rw [h.vm, g2, Nat.mul_assoc 9007199254740992]
    generalize U * D = X at *
    omega
/-- What is chosen lies between the borders. -/
theorem Sc3.chosen {m : Nat} {e : Int} {lo hi N D A B V : Nat} (h : Sc3 m e lo hi N D A B V) {U : Nat} (hU : 0 < U) (hex : lo ≤ hi / U * U) (b d tw : Nat) (ex : Bool) (hb : b = V / (D * U)) (hd : d = if goU b U tw ex lo hi = true then b + 1 else b) : lo ≤ d * U ∧ d * U ≤ hi ∧ b * U * D ≤ V := by
  have hDU : 0 < D * U := Nat.mul_pos h.dp hU
  have h1 : b * U * D ≤ V := by
    rw [hb, Nat.mul_assoc, Nat.mul_comm U D]
    exact Nat.div_mul_le_self _ _
  have h2 : V < (b + 1) * U * D := by
    rw [Nat.mul_assoc, Nat.mul_comm U D, hb]
    exact div_up V (D * U) hDU
  have c1 : b * U ≤ hi := (h.hiI _).2 (.inl (Nat.lt_of_le_of_lt h1 h.vb))
  have c4 : lo ≤ (b + 1) * U := (h.loI _).2 (.inl (Nat.lt_trans h.av h2))
  refine ⟨?_, ?_, h1⟩
  · rw [hd]
    split
    · exact c4
    · rename_i g
      unfold goU at g
      by_cases q : b * U < lo
      · rw [if_pos q] at g; exact absurd rfl g
      · omega
  · rw [hd]
    split
    · rename_i g
      unfold goU at g
      by_cases q : b * U < lo
      · have q2 : b * U < hi / U * U := Nat.lt_of_lt_of_le q hex
        have q3 := Nat.lt_of_mul_lt_mul_right q2
        exact Nat.le_trans (Nat.mul_le_mul_right U q3) (Nat.div_mul_le_self _ _)
      · rw [if_neg q] at g
        by_cases r : hi < (b + 1) * U
        · rw [if_pos r] at g; cases g
        · omega
    · exact c1
end Go.Proofs.YtpdjpjkieafnbaaGreatDoor.Li
set_option linter.unusedVariables false
set_option linter.unusedSimpArgs false
namespace Go.Proofs.YtpdjpjkieafnbaaGreatDoor.Li
open Go.RowKit Lb Nr
theorem fwB_eq (m : Nat) (e : Int) : fwB m e = 4 * m * sNum e (tnF m e) / (sDen e (tnF m e) * 10 ^ fwK m e) := by
  unfold fwB ofQ
  rw [Nat.div_div_eq_div_mul, Nat.div_div_eq_div_mul, show 8 * m * sNum e (tnF m e) = 2 * (4 * m * sNum e (tnF m e)) by rw [← Nat.mul_assoc 2]; congr 1; omega, show sDen e (tnF m e) * (2 * 10 ^ fwK m e) = 2 * (sDen e (tnF m e) * 10 ^ fwK m e) by ac_rfl, Nat.mul_div_mul_left _ _ (by omega)]
/-- What is written: between the borders, seventeen digits at most, the last one no nought. -/
theorem fw_main {m : Nat} {e : Int} (hm0 : 0 < m) (hm : m < 9007199254740992) (he : -1074 ≤ e ∧ e ≤ 971) :
    bLow m e (tnF m e) ≤ fwD m e * 10 ^ fwK m e ∧ fwD m e * 10 ^ fwK m e ≤ bHi m e (tnF m e) ∧ fwD m e < 100000000000000000 ∧ 0 < fwD m e ∧ fwD m e % 10 ≠ 0 ∧ (fwK m e < 18 → bHi m e (tnF m e) / 10 ^ (fwK m e + 1) * 10 ^ (fwK m e + 1) < bLow m e (tnF m e)) ∧ (fwK m e = 18 → fwD m e < 10) := by
  have h := sc3_of hm0 hm he
  obtain ⟨u1, u2⟩ := unK_top (bLow m e (tnF m e)) (bHi m e (tnF m e)) 18
  have hKe : unK (bLow m e (tnF m e)) (bHi m e (tnF m e)) 18 = fwK m e := rfl
  rw [hKe] at u1 u2
  have hK18 : fwK m e ≤ 18 := unK_le _ _ _
  have hB := fwB_eq m e
  have hDd : fwD m e = if goU (fwB m e) (10 ^ fwK m e) (ofQ e (tnF m e) (8 * m) - 2 * fwB m e * 10 ^ fwK m e) (ofX e (tnF m e) (8 * m)) (bLow m e (tnF m e)) (bHi m e (tnF m e)) = true then fwB m e + 1 else fwB m e := rfl
  clear hKe
  generalize ofQ e (tnF m e) (8 * m) - 2 * fwB m e * 10 ^ fwK m e = tw at *
  generalize ofX e (tnF m e) (8 * m) = ex at *
  generalize fwD m e = d at *
  generalize fwB m e = b at *
  generalize fwK m e = K at *
  generalize bLow m e (tnF m e) = lo at *
  generalize bHi m e (tnF m e) = hi at *
  generalize (4 * m + 2) * sNum e (tnF m e) = B at *
  generalize bDn m e * sNum e (tnF m e) = A at *
  generalize 4 * m * sNum e (tnF m e) = V at *
  generalize sNum e (tnF m e) = N at *
  generalize sDen e (tnF m e) = D at *
  have hno : K < 18 → hi / 10 ^ (K + 1) * 10 ^ (K + 1) < lo := fun q => u2 (K + 1) (by omega) (by omega)
  have hU : 0 < 10 ^ K := Nat.pow_pos (by omega)
  have hlo0 : 0 < lo := by
    rcases Nat.eq_zero_or_pos lo with q | q
    · exfalso
      have := (h.loI 0).1 (by omega)
      have := h.a0
      omega
    · exact q
  have hK0 : K ≠ 0 := by
    intro q
    have g := h.gap (U := 10 ^ (K + 1)) (Nat.pow_pos (by omega)) (hno (by omega))
    rw [q] at g
    have e10 : (10 : Nat) ^ (0 + 1) = 10 := rfl
    rw [e10] at g
    have := h.vl
    have hd := h.dp
    omega
  have hex : lo ≤ hi / 10 ^ K * 10 ^ K := by
    rcases u1 with q | q
    · exact absurd q hK0
    · exact q
  obtain ⟨c1, c2, c3⟩ := h.chosen hU hex b d tw ex hB hDd
  have hdb : d ≤ b + 1 := by rw [hDd]; split <;> omega
  have hd0 : 0 < d := by
    rcases Nat.eq_zero_or_pos d with q | q
    · exfalso
      rw [q, Nat.zero_mul] at c1
      omega
    · exact q
  refine ⟨c1, c2, ?_, hd0, ?_, hno, ?_⟩
  · by_cases k1 : K = 1
    · have g := h.gap (U := 10 ^ (K + 1)) (Nat.pow_pos (by omega)) (hno (by omega))
      rw [k1] at g c3
      have e100 : (10 : Nat) ^ (1 + 1) = 100 := rfl
      have e10 : (10 : Nat) ^ 1 = 10 := rfl
      rw [e100] at g
      rw [e10] at c3
      have g2 : b * 10 * D < 9007199254740992 * 100 * D := Nat.lt_of_le_of_lt c3 g
      have g3 := Nat.lt_of_mul_lt_mul_right g2
      omega
    · have h2 : 10 ^ 2 ≤ 10 ^ K := Nat.pow_le_pow_right (by omega) (by omega)
      have e100 : (10 : Nat) ^ 2 = 100 := rfl
      have h3 : d * 100 ≤ d * 10 ^ K := Nat.mul_le_mul_left d (by omega)
      have := h.hb
      omega
  · intro q
    by_cases k18 : K < 18
    · have hn := hno k18
      have e1 : d * 10 ^ K = d / 10 * 10 ^ (K + 1) := by
        rw [Nat.pow_succ', ← Nat.mul_assoc]
        congr 1
        omega
      rw [e1] at c1 c2
      have := mult_in (Nat.pow_pos (by omega)) c2 c1
      omega
    · have hK : K = 18 := by omega
      rw [hK] at c2
      have := h.hb
      have e18 : (10 : Nat) ^ 18 = 1000000000000000000 := by decide
      rw [e18] at c2
      omega
  · intro hK
    rw [hK] at c2
    have := h.hb
    have e18 : (10 : Nat) ^ 18 = 1000000000000000000 := by decide
    rw [e18] at c2
    omega
end Go.Proofs.YtpdjpjkieafnbaaGreatDoor.Li
