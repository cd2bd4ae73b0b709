import Derived.Test.YtpdjpjkieafnbaaGreatDoorSM5
import Derived.Test.YtpdjpjkieafnbaaGreatDoorNS3
import Derived.Test.YtpdjpjkieafnbaaGreatDoorNX3
import Derived.Test.YtpdjpjkieafnbaaGreatDoorRP
set_option linter.unusedVariables false
set_option linter.unusedSimpArgs false
namespace Go.Proofs.YtpdjpjkieafnbaaGreatDoor.Li.Nw
open Go.RowKit Lb Nr
/-- The parts of a number's bits, out of what was rounded. -/
theorem parts_wb {M : Nat} {E : Int} {x : Nat} (hx : x = wb M E) (hM : M ≤ 16777216) (hE : -149 ≤ E) (hs : M < 8388608 → E = -149) (hk : pKind x = 1 ∨ pKind x = 2) (hx2 : x < 2139095040) :
    (M < 16777216 ∧ pM x = M ∧ pE x = E) ∨ (M = 16777216 ∧ pM x = 8388608 ∧ pE x = E + 1) := by
  have hf := hx
  unfold wb at hf
  have hx3 : x = if 8388608 ≤ M then M + (E + 149).toNat * 8388608 else M := by
    rw [hf]
    rw [hf] at hx2
    split <;> split at hx2 <;> omega
  clear hf hx
  obtain ⟨K, hK⟩ : ∃ K : Nat, (E + 149).toNat = K := ⟨_, rfl⟩
  rw [hK] at hx3
  have hEK : E = (K : Int) - 149 := by omega
  by_cases c1 : M < 8388608
  · have hE2 := hs c1
    rw [if_neg (by omega)] at hx3
    subst hx3
    have f0 : pField x = 0 := by unfold pField; omega
    have k0 : pKept x = x := by unfold pKept; omega
    have hx0 : 0 < x := by
      unfold pKind at hk
      rw [f0, k0] at hk
      rcases Nat.eq_zero_or_pos x with q | q
      · rw [q] at hk; simp at hk
      · exact q
    refine .inl ⟨by omega, ?_, ?_⟩
    · unfold pM; rw [f0, if_neg (by omega), k0]
    · unfold pE; rw [f0, if_neg (by omega), if_neg (by omega), k0, if_pos hx0, hE2]
  · rw [if_pos (by omega)] at hx3
    by_cases c2 : M < 16777216
    · have f0 : pField x = K + 1 := by unfold pField; omega
      have k0 : pKept x = M - 8388608 := by unfold pKept; omega
      refine .inl ⟨c2, ?_, ?_⟩
      · unfold pM; rw [f0, if_pos (by omega), k0]; omega
      · unfold pE; rw [f0, if_neg (by omega), if_pos (by omega)]; omega
    · have hM2 : M = 16777216 := by omega
      have f0 : pField x = K + 2 := by unfold pField; omega
      have k0 : pKept x = 0 := by unfold pKept; omega
      refine .inr ⟨hM2, ?_, ?_⟩
      · unfold pM; rw [f0, if_pos (by omega), k0]
      · unfold pE; rw [f0, if_neg (by omega), if_pos (by omega)]; omega
/-- Where a quotient lies that is read as a number: between the borders, at them if the number is even. -/
theorem quart {N D x : Nat} (hN : 0 < N) (hD : 0 < D) (h : NB N D x) (hx2 : x < 2139095040) (hk : pKind x = 1 ∨ pKind x = 2) :
    bDn (pM x) (pE x) * sB D (pE x - 2) ≤ sA N (pE x - 2) ∧ (bDn (pM x) (pE x) * sB D (pE x - 2) = sA N (pE x - 2) → pM x % 2 = 0) ∧ sA N (pE x - 2) ≤ (4 * pM x + 2) * sB D (pE x - 2) ∧ (sA N (pE x - 2) = (4 * pM x + 2) * sB D (pE x - 2) → pM x % 2 = 0) := by
  obtain ⟨E, hE⟩ := exE hN hD
  have hx : x = wb (Nr.rup (sA N E) (sB D E)) E := h.2 hN E hE
  obtain ⟨s1, s2⟩ := small_E hD hE
  obtain ⟨r1, r2, r3⟩ := rup_half (sA N E) (sB D E) (sB_pos hD E)
  obtain ⟨i1, i2, i3⟩ := hE
  obtain ⟨M, hM⟩ : ∃ M, Nr.rup (sA N E) (sB D E) = M := ⟨_, rfl⟩
  rw [hM] at hx s1 s2 r1 r2 r3
  clear hM
  have hp := parts_wb hx s1 i1 s2 hk hx2
  have hY := sB_pos hD E
  have hB := sB_pos hD (pE x - 2)
  unfold fl at i2
  rcases hp with ⟨c, p1, p2⟩ | ⟨c, p1, p2⟩
  · rw [p1, p2]
    rw [p2] at hB
    have hq := quart_eq N D E
    have hlow : 2 * (M * sB D E) ≤ 2 * sA N E + sB D E := r1
    by_cases c2 : M = 8388608 ∧ -149 < E
    · have hb : bDn M E = 4 * M - 1 := by unfold bDn; rw [if_pos c2]; omega
      have hfl : 16777216 ≤ fl N D (E - 1) := by
        rcases i3 with q | q
        · omega
        · exact q
      have hfa := fl_add hD (E - 1) 1 (N := N)
      rw [show E - 1 + ((1 : Nat) : Int) = E by omega] at hfa
      have hfE : M ≤ fl N D E := by
        rw [hfa, c2.1]
        show 8388608 ≤ _ / 2
        omega
      have hge : M * sB D E ≤ sA N E := by
        unfold fl at hfE
        rw [Nat.le_div_iff_mul_le hY] at hfE
        exact hfE
      have hA : 4 * M * sB D (E - 2) ≤ sA N (E - 2) := by
        apply Nat.le_of_mul_le_mul_right _ hY
        rw [← hq]
        calc 4 * M * sB D (E - 2) * sB D E = M * sB D E * (sB D (E - 2) * 4) := by ac_rfl
          _ ≤ sA N E * (sB D (E - 2) * 4) := Nat.mul_le_mul_right _ hge
      have hlt : bDn M E * sB D (E - 2) < 4 * M * sB D (E - 2) := Nat.mul_lt_mul_of_pos_right (by rw [hb]; omega) hB
      refine ⟨by omega, fun q => absurd q (by omega), ?_, fun q => by rw [c2.1]⟩
      apply Nat.le_of_mul_le_mul_right _ hY
      rw [← hq]
      have e1 : (4 * M + 2) * sB D (E - 2) * sB D E = (2 * (M * sB D E) + sB D E) * (sB D (E - 2) * 2) := by
        rw [show (4 * M + 2) = 2 * (2 * M + 1) by omega, show 2 * (M * sB D E) + sB D E = (2 * M + 1) * sB D E by rw [Nat.add_mul, Nat.one_mul, Nat.mul_assoc]]
        ac_rfl
      rw [e1]
      calc sA N E * (sB D (E - 2) * 4) = 2 * sA N E * (sB D (E - 2) * 2) := by rw [show (4 : Nat) = 2 * 2 from rfl]; ac_rfl
        _ ≤ _ := Nat.mul_le_mul_right _ r2
    · have hM0 : 0 < M := by
        have := (kind_parts hk).1
        omega
      have hb : bDn M E = 4 * M - 2 := by unfold bDn; rw [if_neg c2]; rfl
      have e0 : bDn M E * sB D (E - 2) * sB D E = (2 * M - 1) * sB D E * (sB D (E - 2) * 2) := by
        rw [hb, show 4 * M - 2 = 2 * (2 * M - 1) by omega]
        ac_rfl
      have e1 : (4 * M + 2) * sB D (E - 2) * sB D E = (2 * (M * sB D E) + sB D E) * (sB D (E - 2) * 2) := by
        rw [show (4 * M + 2) = 2 * (2 * M + 1) by omega, show 2 * (M * sB D E) + sB D E = (2 * M + 1) * sB D E by rw [Nat.add_mul, Nat.one_mul, Nat.mul_assoc]]
        ac_rfl
      have e2 : sA N (E - 2) * sB D E = 2 * sA N E * (sB D (E - 2) * 2) := by
        rw [← hq, show (4 : Nat) = 2 * 2 from rfl]
        ac_rfl
      have e3 : (2 * M - 1) * sB D E + sB D E = 2 * (M * sB D E) := by
        rw [← Nat.succ_mul, show (2 * M - 1).succ = 2 * M by omega, Nat.mul_assoc]
      have hB2 : 0 < sB D (E - 2) * 2 := by omega
      refine ⟨?_, fun q => ?_, ?_, fun q => ?_⟩
      · apply Nat.le_of_mul_le_mul_right _ hY
        rw [e0, e2]
        exact Nat.mul_le_mul_right _ (by omega)
      · apply r3
        left
        have q2 : (2 * M - 1) * sB D E * (sB D (E - 2) * 2) = 2 * sA N E * (sB D (E - 2) * 2) := by rw [← e0, ← e2, q]
        have q3 := Nat.eq_of_mul_eq_mul_right hB2 q2
        omega
      · apply Nat.le_of_mul_le_mul_right _ hY
        rw [e1, e2]
        exact Nat.mul_le_mul_right _ r2
      · apply r3
        right
        have q2 : 2 * sA N E * (sB D (E - 2) * 2) = (2 * (M * sB D E) + sB D E) * (sB D (E - 2) * 2) := by rw [← e1, ← e2, q]
        exact Nat.eq_of_mul_eq_mul_right hB2 q2
  · have hb : bDn 8388608 (E + 1) = 33554431 := by unfold bDn; rw [if_pos ⟨rfl, by omega⟩]
    rw [p1, p2, hb]
    rw [p2] at hB
    have hq := quart_eq N D E
    have hr := ratio N D (E - 2) 1
    rw [show E - 2 + ((1 : Nat) : Int) = E + 1 - 2 by omega] at hr
    subst c
    have hB0 := sB_pos hD (E - 2)
    -- A = sA N (E - 1), B = sB D (E - 1): A / B = 2 * (X / Y)
    have h2 : sA N E * (sB D (E + 1 - 2) * 2) = sA N (E + 1 - 2) * sB D E := by
      have h := ratio N D (E + 1 - 2) 1
      rw [show E + 1 - 2 + ((1 : Nat) : Int) = E by omega] at h
      exact h
    have hlt : sA N E < 16777216 * sB D E := by
      rw [Nat.div_lt_iff_lt_mul hY] at i2
      exact i2
    refine ⟨?_, fun _ => rfl, ?_, fun _ => rfl⟩
    · apply Nat.le_of_mul_le_mul_right _ hY
      rw [← h2]
      have e3 : 33554431 * sB D (E + 1 - 2) * sB D E = (33554431 * sB D E) * sB D (E + 1 - 2) := by ac_rfl
      have e4 : sA N E * (sB D (E + 1 - 2) * 2) = (2 * sA N E) * sB D (E + 1 - 2) := by ac_rfl
      rw [e3, e4]
      exact Nat.mul_le_mul_right _ (by omega)
    · apply Nat.le_of_mul_le_mul_right _ hY
      rw [← h2]
      have e3 : (4 * 8388608 + 2) * sB D (E + 1 - 2) * sB D E = ((4 * 8388608 + 2) * sB D E) * sB D (E + 1 - 2) := by ac_rfl
      have e4 : sA N E * (sB D (E + 1 - 2) * 2) = (2 * sA N E) * sB D (E + 1 - 2) := by ac_rfl
      rw [e3, e4]
      exact Nat.mul_le_mul_right _ (by omega)
end Go.Proofs.YtpdjpjkieafnbaaGreatDoor.Li.Nw
set_option linter.unusedVariables false
set_option linter.unusedSimpArgs false
namespace Go.Proofs.YtpdjpjkieafnbaaGreatDoor.Li.Nw
open Go.RowKit Lb Nr
/-- The borders, said by cross products. -/
theorem lo_iff (m : Nat) (e t : Int) (M : Nat) : bLow m e t ≤ M ↔ (bDn m e * sNum e t < M * sDen e t ∨ (bDn m e * sNum e t = M * sDen e t ∧ m % 2 = 0)) := by
  unfold bLow ofQ ofX
  have hd := sDen_pos e t
  generalize bDn m e * sNum e t = A
  generalize sDen e t = D at *
  have hA := Nat.div_add_mod A D
  have hr := Nat.mod_lt A hd
  generalize A / D = q at *
  generalize A % D = r at *
  by_cases h0 : r = 0
  · subst h0
    by_cases he : m % 2 = 0
    · simp only [he, decide_true, Bool.not_true, Bool.or_false, Bool.false_eq_true, if_false, Nat.add_zero, and_true]
      rw [Nat.add_zero] at hA
      rw [← hA, Nat.mul_comm D q]
      constructor
      · intro h
        rcases Nat.lt_or_eq_of_le h with g | g
        · exact .inl (Nat.mul_lt_mul_of_pos_right g hd)
        · exact .inr (by rw [g])
      · rintro (h | h)
        · exact Nat.le_of_lt (Nat.lt_of_mul_lt_mul_right h)
        · exact Nat.le_of_eq (Nat.eq_of_mul_eq_mul_right hd h)
    · simp only [he, decide_true, decide_false, Bool.not_true, Bool.not_false, Bool.or_true, if_true, and_false, or_false]
      rw [Nat.add_zero] at hA
      rw [← hA, Nat.mul_comm D q]
      constructor
      · intro h
        exact Nat.mul_lt_mul_of_pos_right h hd
      · intro h
        exact Nat.lt_of_mul_lt_mul_right h
  · simp only [h0, decide_false, Bool.not_false, Bool.true_or, if_true]
    have key : q + 1 ≤ M ↔ A < M * D := by
      constructor
      · intro h
        have := Nat.mul_le_mul_right D h
        rw [Nat.add_mul, Nat.one_mul, Nat.mul_comm q D] at this
        omega
      · intro h
        rcases Nat.lt_or_ge q M with g | g
        · exact g
        · have := Nat.mul_le_mul_right D g
          rw [Nat.mul_comm q D] at this
          omega
    rw [key]
    constructor
    · exact .inl
    · rintro (h | ⟨h, -⟩)
      · exact h
      · exfalso
        have h2 : D ∣ D * q + r := by rw [hA, h]; exact Nat.dvd_mul_left D M
        have h3 : D ∣ r := (Nat.dvd_add_right (Nat.dvd_mul_right D q)).1 h2
        have := Nat.le_of_dvd (by omega) h3
        omega
theorem hi_iff (m : Nat) (e t : Int) (M : Nat) (h1 : 0 < ofQ e t (4 * m + 2)) : M ≤ bHi m e t ↔ (M * sDen e t < (4 * m + 2) * sNum e t ∨ (M * sDen e t = (4 * m + 2) * sNum e t ∧ m % 2 = 0)) := by
  unfold bHi ofX
  unfold ofQ at *
  have hd := sDen_pos e t
  generalize (4 * m + 2) * sNum e t = A at *
  generalize sDen e t = D at *
  have hA := Nat.div_add_mod A D
  have hr := Nat.mod_lt A hd
  generalize A / D = q at *
  generalize A % D = r at *
  by_cases h0 : r = 0
  · subst h0
    by_cases he : m % 2 = 0
    · simp only [he, decide_true, Bool.not_true, Bool.and_false, Bool.false_eq_true, if_false, Nat.sub_zero, and_true]
      rw [Nat.add_zero] at hA
      rw [← hA, Nat.mul_comm D q]
      constructor
      · intro h
        rcases Nat.lt_or_eq_of_le h with g | g
        · exact .inl (Nat.mul_lt_mul_of_pos_right g hd)
        · exact .inr (by rw [g])
      · rintro (h | h)
        · exact Nat.le_of_lt (Nat.lt_of_mul_lt_mul_right h)
        · exact Nat.le_of_eq (Nat.eq_of_mul_eq_mul_right hd h)
    · simp only [he, decide_true, decide_false, Bool.not_false, Bool.and_true, if_true, and_false, or_false]
      rw [Nat.add_zero] at hA
      rw [← hA, Nat.mul_comm D q]
      constructor
      · intro h
        exact Nat.mul_lt_mul_of_pos_right (by omega) hd
      · intro h
        have := Nat.lt_of_mul_lt_mul_right h
        omega
  · simp only [h0, decide_false, Bool.false_and, Bool.false_eq_true, if_false, Nat.sub_zero]
    have key : M ≤ q ↔ M * D < A := by
      constructor
      · intro h
        have := Nat.mul_le_mul_right D h
        rw [Nat.mul_comm q D] at this
        omega
      · intro h
        rcases Nat.lt_or_ge q M with g | g
        · have := Nat.mul_le_mul_right D g
          rw [Nat.succ_mul, Nat.mul_comm q D] at this
          omega
        · exact g
    rw [key]
    constructor
    · exact .inl
    · rintro (h | ⟨h, -⟩)
      · exact h
      · exfalso
        have h2 : D ∣ D * q + r := by rw [hA, ← h]; exact Nat.dvd_mul_left D M
        have h3 : D ∣ r := (Nat.dvd_add_right (Nat.dvd_mul_right D q)).1 h2
        have := Nat.le_of_dvd (by omega) h3
        omega
end Go.Proofs.YtpdjpjkieafnbaaGreatDoor.Li.Nw
set_option linter.unusedVariables false
set_option linter.unusedSimpArgs false
namespace Go.Proofs.YtpdjpjkieafnbaaGreatDoor.Li.Nw
open Go.RowKit Lb Nr
/-- A number, its scale and its borders. -/
structure Sc3 (m : Nat) (e : Int) (lo hi N D A B V : Nat) : Prop where
  loI : ∀ M, lo ≤ M ↔ (A < M * D ∨ (A = M * D ∧ m % 2 = 0))
  hiI : ∀ M, M ≤ hi ↔ (M * D < B ∨ (M * D = B ∧ m % 2 = 0))
  dp : 0 < D
  np : 0 < N
  av : A < V
  vb : V < B
  wide : 3 * N + A ≤ B ∧ (4 * N + A ≤ B ∨ m = 8388608)
  vm : V = 4 * m * N
  vl : 99000000000000000 * D ≤ V
  vh : V < 2100000000000000000 * D
  hb : hi < 3150000000000000000
  m0 : 0 < m
  mb : m < 16777216
  a0 : 0 < A
theorem sc3_of {m : Nat} {e : Int} (hm0 : 0 < m) (hm : m < 16777216) (he : -149 ≤ e ∧ e ≤ 104) :
    Sc3 m e (bLow m e (tnF m e)) (bHi m e (tnF m e)) (sNum e (tnF m e)) (sDen e (tnF m e)) (bDn m e * sNum e (tnF m e)) ((4 * m + 2) * sNum e (tnF m e)) (4 * m * sNum e (tnF m e)) := by
  obtain ⟨b1, b2, -, b4⟩ := fw_bounds hm0 hm he
  obtain ⟨-, s1, s2⟩ := scale_ok hm0 hm he
  have hN := sNum_pos e (tnF m e)
  have hD := sDen_pos e (tnF m e)
  have hdn : bDn m e = 4 * m - 2 ∨ (bDn m e = 4 * m - 1 ∧ m = 8388608) := by
    unfold bDn
    split
    · rename_i c
      right
      exact ⟨by omega, c.1⟩
    · left; rfl
  refine ⟨lo_iff m e _, fun M => hi_iff m e _ M (by omega), hD, hN, ?_, ?_, ?_, rfl, s1, s2, ?_, hm0, hm, ?_⟩
  · exact Nat.mul_lt_mul_of_pos_right (by omega) hN
  · exact Nat.mul_lt_mul_of_pos_right (by omega) hN
  · refine ⟨?_, ?_⟩
    · rw [← Nat.add_mul]
      exact Nat.mul_le_mul_right _ (by omega)
    · rcases hdn with q | q
      · left
        rw [← Nat.add_mul]
        exact Nat.mul_le_mul_right _ (by omega)
      · exact .inr q.2
  · exact Nat.lt_of_le_of_lt (Nat.sub_le _ _) b1
  · exact Nat.mul_pos (by omega) hN
/-- Where no multiple of U lies between the borders. -/
theorem Sc3.gap {m : Nat} {e : Int} {lo hi N D A B V : Nat} (h : Sc3 m e lo hi N D A B V) {U : Nat} (hU : 0 < U) (hno : hi / U * U < lo) : V < 16777216 * U * D := by
  obtain ⟨j, hj⟩ : ∃ j, V / (D * U) = j := ⟨_, rfl⟩
  have hDU : 0 < D * U := Nat.mul_pos h.dp hU
  have h1 : j * U * D ≤ V := by
    rw [← hj, Nat.mul_assoc, Nat.mul_comm U D]
    exact Nat.div_mul_le_self _ _
  have h2 : V < (j + 1) * U * D := by
    rw [Nat.mul_assoc, Nat.mul_comm U D, ← hj]
    exact div_up V (D * U) hDU
  have c1 : j * U ≤ hi := (h.hiI _).2 (.inl (Nat.lt_of_le_of_lt h1 h.vb))
  have c2 : ¬ lo ≤ j * U := fun q => by have := mult_in hU c1 q; omega
  have c3 : j * U * D ≤ A := by
    rcases Nat.lt_or_ge A (j * U * D) with q | q
    · exact absurd ((h.loI _).2 (.inl q)) c2
    · exact q
  have c4 : lo ≤ (j + 1) * U := (h.loI _).2 (.inl (Nat.lt_trans h.av h2))
  have c5 : ¬ (j + 1) * U ≤ hi := fun q => by have := mult_in hU q c4; omega
  have c6 : B ≤ (j + 1) * U * D := by
    rcases Nat.lt_or_ge ((j + 1) * U * D) B with q | q
    · exact absurd ((h.hiI _).2 (.inl q)) c5
    · exact q
  have c7 : (j + 1) * U * D = j * U * D + U * D := by rw [Nat.add_mul, Nat.add_mul, Nat.one_mul]
  have w1 : B ≤ A + U * D := by omega
  obtain ⟨g1, g2⟩ := h.wide
  have g3 : 3 * N ≤ U * D := by omega
  rcases g2 with g2 | g2
  · have g4 : 4 * N ≤ U * D := by omega
    rw [h.vm]
    have : 4 * m * N = m * (4 * N) := by rw [Nat.mul_comm 4 m, Nat.mul_assoc]
    rw [this, Nat.mul_assoc]
    refine Nat.lt_of_le_of_lt (Nat.mul_le_mul_left m g4) ?_
    exact Nat.mul_lt_mul_of_pos_right h.mb (Nat.mul_pos hU h.dp)
  · have hUD : 0 < U * D := Nat.mul_pos hU h.dp
    rw [h.vm, g2, Nat.mul_assoc 16777216]
    generalize U * D = X at *
    omega
/-- What is chosen lies between the borders. -/
theorem Sc3.chosen {m : Nat} {e : Int} {lo hi N D A B V : Nat} (h : Sc3 m e lo hi N D A B V) {U : Nat} (hU : 0 < U) (hex : lo ≤ hi / U * U) (b d tw : Nat) (ex : Bool) (hb : b = V / (D * U)) (hd : d = if goU b U tw ex lo hi = true then b + 1 else b) : lo ≤ d * U ∧ d * U ≤ hi ∧ b * U * D ≤ V := by
  have hDU : 0 < D * U := Nat.mul_pos h.dp hU
  have h1 : b * U * D ≤ V := by
    rw [hb, Nat.mul_assoc, Nat.mul_comm U D]
    exact Nat.div_mul_le_self _ _
  have h2 : V < (b + 1) * U * D := by
    rw [Nat.mul_assoc, Nat.mul_comm U D, hb]
    exact div_up V (D * U) hDU
  have c1 : b * U ≤ hi := (h.hiI _).2 (.inl (Nat.lt_of_le_of_lt h1 h.vb))
  have c4 : lo ≤ (b + 1) * U := (h.loI _).2 (.inl (Nat.lt_trans h.av h2))
  refine ⟨?_, ?_, h1⟩
  · rw [hd]
    split
    · exact c4
    · rename_i g
      unfold goU at g
      by_cases q : b * U < lo
      · rw [if_pos q] at g; exact absurd rfl g
      · omega
  · rw [hd]
    split
    · rename_i g
      unfold goU at g
      by_cases q : b * U < lo
      · have q2 : b * U < hi / U * U := Nat.lt_of_lt_of_le q hex
        have q3 := Nat.lt_of_mul_lt_mul_right q2
        exact Nat.le_trans (Nat.mul_le_mul_right U q3) (Nat.div_mul_le_self _ _)
      · rw [if_neg q] at g
        by_cases r : hi < (b + 1) * U
        · rw [if_pos r] at g; cases g
        · omega
    · exact c1
end Go.Proofs.YtpdjpjkieafnbaaGreatDoor.Li.Nw
set_option linter.unusedVariables false
set_option linter.unusedSimpArgs false
namespace Go.Proofs.YtpdjpjkieafnbaaGreatDoor.Li.Nw
open Go.RowKit Lb Nr
theorem fwB_eq (m : Nat) (e : Int) : fwB m e = 4 * m * sNum e (tnF m e) / (sDen e (tnF m e) * 10 ^ fwK m e) := by
  unfold fwB ofQ
  rw [Nat.div_div_eq_div_mul, Nat.div_div_eq_div_mul, show 8 * m * sNum e (tnF m e) = 2 * (4 * m * sNum e (tnF m e)) by rw [← Nat.mul_assoc 2]; congr 1; omega, show sDen e (tnF m e) * (2 * 10 ^ fwK m e) = 2 * (sDen e (tnF m e) * 10 ^ fwK m e) by ac_rfl, Nat.mul_div_mul_left _ _ (by omega)]
/-- What is written: between the borders, seventeen digits at most, the last one no nought. -/
theorem fw_main {m : Nat} {e : Int} (hm0 : 0 < m) (hm : m < 16777216) (he : -149 ≤ e ∧ e ≤ 104) :
    bLow m e (tnF m e) ≤ fwD m e * 10 ^ fwK m e ∧ fwD m e * 10 ^ fwK m e ≤ bHi m e (tnF m e) ∧ fwD m e < 100000000000000000 ∧ 0 < fwD m e ∧ fwD m e % 10 ≠ 0 ∧ (fwK m e < 18 → bHi m e (tnF m e) / 10 ^ (fwK m e + 1) * 10 ^ (fwK m e + 1) < bLow m e (tnF m e)) ∧ (fwK m e = 18 → fwD m e < 10) := by
  have h := sc3_of hm0 hm he
  obtain ⟨u1, u2⟩ := unK_top (bLow m e (tnF m e)) (bHi m e (tnF m e)) 18
  have hKe : unK (bLow m e (tnF m e)) (bHi m e (tnF m e)) 18 = fwK m e := rfl
  rw [hKe] at u1 u2
  have hK18 : fwK m e ≤ 18 := unK_le _ _ _
  have hB := fwB_eq m e
  have hDd : fwD m e = if goU (fwB m e) (10 ^ fwK m e) (ofQ e (tnF m e) (8 * m) - 2 * fwB m e * 10 ^ fwK m e) (ofX e (tnF m e) (8 * m)) (bLow m e (tnF m e)) (bHi m e (tnF m e)) = true then fwB m e + 1 else fwB m e := rfl
  clear hKe
  generalize ofQ e (tnF m e) (8 * m) - 2 * fwB m e * 10 ^ fwK m e = tw at *
  generalize ofX e (tnF m e) (8 * m) = ex at *
  generalize fwD m e = d at *
  generalize fwB m e = b at *
  generalize fwK m e = K at *
  generalize bLow m e (tnF m e) = lo at *
  generalize bHi m e (tnF m e) = hi at *
  generalize (4 * m + 2) * sNum e (tnF m e) = B at *
  generalize bDn m e * sNum e (tnF m e) = A at *
  generalize 4 * m * sNum e (tnF m e) = V at *
  generalize sNum e (tnF m e) = N at *
  generalize sDen e (tnF m e) = D at *
  have hno : K < 18 → hi / 10 ^ (K + 1) * 10 ^ (K + 1) < lo := fun q => u2 (K + 1) (by omega) (by omega)
  have hU : 0 < 10 ^ K := Nat.pow_pos (by omega)
  have hlo0 : 0 < lo := by
    rcases Nat.eq_zero_or_pos lo with q | q
    · exfalso
      have := (h.loI 0).1 (by omega)
      have := h.a0
      omega
    · exact q
  have hK0 : K ≠ 0 := by
    intro q
    have g := h.gap (U := 10 ^ (K + 1)) (Nat.pow_pos (by omega)) (hno (by omega))
    rw [q] at g
    have e10 : (10 : Nat) ^ (0 + 1) = 10 := rfl
    rw [e10] at g
    have := h.vl
    have hd := h.dp
    omega
  have hex : lo ≤ hi / 10 ^ K * 10 ^ K := by
    rcases u1 with q | q
    · exact absurd q hK0
    · exact q
  obtain ⟨c1, c2, c3⟩ := h.chosen hU hex b d tw ex hB hDd
  have hdb : d ≤ b + 1 := by rw [hDd]; split <;> omega
  have hd0 : 0 < d := by
    rcases Nat.eq_zero_or_pos d with q | q
    · exfalso
      rw [q, Nat.zero_mul] at c1
      omega
    · exact q
  refine ⟨c1, c2, ?_, hd0, ?_, hno, ?_⟩
  · by_cases k1 : K = 1
    · have g := h.gap (U := 10 ^ (K + 1)) (Nat.pow_pos (by omega)) (hno (by omega))
      rw [k1] at g c3
      have e100 : (10 : Nat) ^ (1 + 1) = 100 := rfl
      have e10 : (10 : Nat) ^ 1 = 10 := rfl
      rw [e100] at g
      rw [e10] at c3
      have g2 : b * 10 * D < 16777216 * 100 * D := Nat.lt_of_le_of_lt c3 g
      have g3 := Nat.lt_of_mul_lt_mul_right g2
      omega
    · have h2 : 10 ^ 2 ≤ 10 ^ K := Nat.pow_le_pow_right (by omega) (by omega)
      have e100 : (10 : Nat) ^ 2 = 100 := rfl
      have h3 : d * 100 ≤ d * 10 ^ K := Nat.mul_le_mul_left d (by omega)
      have := h.hb
      omega
  · intro q
    by_cases k18 : K < 18
    · have hn := hno k18
      have e1 : d * 10 ^ K = d / 10 * 10 ^ (K + 1) := by
        rw [Nat.pow_succ', ← Nat.mul_assoc]
        congr 1
        omega
      rw [e1] at c1 c2
      have := mult_in (Nat.pow_pos (by omega)) c2 c1
      omega
    · have hK : K = 18 := by omega
      rw [hK] at c2
      have := h.hb
      have e18 : (10 : Nat) ^ 18 = 1000000000000000000 := by decide
      rw [e18] at c2
      omega
  · intro hK
    rw [hK] at c2
    have := h.hb
    have e18 : (10 : Nat) ^ 18 = 1000000000000000000 := by decide
    rw [e18] at c2
    omega
end Go.Proofs.YtpdjpjkieafnbaaGreatDoor.Li.Nw
set_option linter.unusedVariables false
set_option linter.unusedSimpArgs false
namespace Go.Proofs.YtpdjpjkieafnbaaGreatDoor.Li.Nw
open Go.RowKit Lb Nr
theorem wb_parts {x : Nat} (hx2 : x < 2139095040) (hk : pKind x = 1 ∨ pKind x = 2) : wb (pM x) (pE x) = x ∧ (pE x = -149 ∨ 8388608 ≤ pM x) := by
  have hf : pField x < 255 := by unfold pField; omega
  have hxe : x = pField x * 8388608 + pKept x := by unfold pField pKept; omega
  have hkp : pKept x < 8388608 := Nat.mod_lt _ (by omega)
  unfold pKind at hk
  rw [if_neg (by omega)] at hk
  by_cases c : 0 < pField x
  · have hM : pM x = 8388608 + pKept x := by unfold pM; rw [if_pos ⟨c, hf⟩]
    have hE : pE x = -149 + (pField x : Int) - 1 := by unfold pE; rw [if_neg (by omega), if_pos c]
    rw [hM, hE]
    generalize pField x = f at *
    generalize pKept x = p at *
    refine ⟨?_, .inr (by omega)⟩
    unfold wb
    rw [if_pos (by omega)]
    have e : (-149 + (f : Int) - 1 + 149).toNat = f - 1 := by omega
    rw [e]
    have e2 : (f - 1) * 8388608 + 8388608 = f * 8388608 := by
      rw [← Nat.succ_mul]; congr 1; omega
    omega
  · rw [if_neg c] at hk
    have hp : 0 < pKept x := by
      rcases Nat.eq_zero_or_pos (pKept x) with q | q
      · rw [q] at hk; simp at hk
      · exact q
    have hM : pM x = pKept x := by unfold pM; rw [if_neg (fun q => c q.1)]
    have hE : pE x = -149 := by unfold pE; rw [if_neg (by omega), if_neg c, if_pos hp]
    have f0 : pField x = 0 := by omega
    rw [f0] at hxe
    rw [hM, hE]
    unfold wb
    rw [if_neg (by omega)]
    exact ⟨by omega, .inl rfl⟩
/-- A quotient between the borders is read as the number. -/
theorem quart_back {N D x : Nat} (hN : 0 < N) (hD : 0 < D) (hx2 : x < 2139095040) (hk : pKind x = 1 ∨ pKind x = 2) (h1 : bDn (pM x) (pE x) * sB D (pE x - 2) ≤ sA N (pE x - 2)) (h2 : bDn (pM x) (pE x) * sB D (pE x - 2) = sA N (pE x - 2) → pM x % 2 = 0) (h3 : sA N (pE x - 2) ≤ (4 * pM x + 2) * sB D (pE x - 2)) (h4 : sA N (pE x - 2) = (4 * pM x + 2) * sB D (pE x - 2) → pM x % 2 = 0) : NB N D x := by
  obtain ⟨hwb, hnorm⟩ := wb_parts hx2 hk
  obtain ⟨p1, p2, p3, p4⟩ := kind_parts hk
  generalize pM x = m at *
  generalize pE x = e at *
  have hY := sB_pos hD e
  have hB := sB_pos hD (e - 2)
  have hq := quart_eq N D e
  -- twice and four times
  have fin : ∀ E M, IsE N D E → Nr.rup (sA N E) (sB D E) = M → wb M E = x → NB N D x := by
    intro E M hE hM hw
    refine ⟨fun q => by omega, fun _ E' hE' => ?_⟩
    rw [isE_one hD hE' hE]
    show x = wb (Nr.rup (sA N E) (sB D E)) E
    rw [hM, hw]
  have up : 2 * sA N e ≤ 2 * m * sB D e + sB D e := by
    apply Nat.le_of_mul_le_mul_right _ (show 0 < sB D (e - 2) * 2 by omega)
    calc 2 * sA N e * (sB D (e - 2) * 2) = sA N e * (sB D (e - 2) * 4) := by rw [show (4 : Nat) = 2 * 2 from rfl]; ac_rfl
      _ = sA N (e - 2) * sB D e := hq
      _ ≤ (4 * m + 2) * sB D (e - 2) * sB D e := Nat.mul_le_mul_right _ h3
      _ = (2 * m * sB D e + sB D e) * (sB D (e - 2) * 2) := by
        rw [show 4 * m + 2 = (2 * m + 1) * 2 by omega, show 2 * m * sB D e + sB D e = (2 * m + 1) * sB D e by rw [Nat.add_mul, Nat.one_mul]]
        ac_rfl
  have upE : 2 * sA N e = 2 * m * sB D e + sB D e → m % 2 = 0 := by
    intro q
    apply h4
    apply Nat.eq_of_mul_eq_mul_right hY
    rw [← hq]
    calc sA N e * (sB D (e - 2) * 4) = 2 * sA N e * (sB D (e - 2) * 2) := by rw [show (4 : Nat) = 2 * 2 from rfl]; ac_rfl
      _ = (2 * m * sB D e + sB D e) * (sB D (e - 2) * 2) := by rw [q]
      _ = (4 * m + 2) * sB D (e - 2) * sB D e := by
        rw [show 4 * m + 2 = (2 * m + 1) * 2 by omega, show 2 * m * sB D e + sB D e = (2 * m + 1) * sB D e by rw [Nat.add_mul, Nat.one_mul]]
        ac_rfl
  have flE : fl N D e ≤ m := by
    unfold fl
    rw [← Nat.lt_succ_iff, Nat.div_lt_iff_lt_mul hY, Nat.succ_mul]
    have e1 : 2 * m * sB D e = 2 * (m * sB D e) := Nat.mul_assoc _ _ _
    omega
  have flE1 : ∀ C, 2 * C * sB D e ≤ 2 * (2 * sA N e) → C ≤ fl N D (e - 1) := by
    intro C hC
    have hr := ratio N D (e - 1) 1
    rw [show e - 1 + ((1 : Nat) : Int) = e by omega] at hr
    have hY1 := sB_pos hD (e - 1)
    unfold fl
    rw [Nat.le_div_iff_mul_le hY1]
    apply Nat.le_of_mul_le_mul_right _ hY
    rw [← hr]
    have e1 : C * sB D (e - 1) * sB D e = (C * sB D e) * sB D (e - 1) := by ac_rfl
    have e2 : sA N e * (sB D (e - 1) * 2 ^ 1) = (2 * sA N e) * sB D (e - 1) := by rw [Nat.pow_one]; ac_rfl
    rw [e1, e2]
    exact Nat.mul_le_mul_right _ (by have : 2 * C * sB D e = 2 * (C * sB D e) := Nat.mul_assoc _ _ _
                                     omega)
  by_cases c : m = 8388608 ∧ -149 < e
  · have hb : bDn m e = 4 * m - 1 := by unfold bDn; rw [if_pos c]; omega
    by_cases g : m * sB D e ≤ sA N e
    · refine fin e m ⟨p3, by omega, .inr (flE1 _ ?_)⟩ (rup_is hY ?_ up ?_) hwb
      · rw [c.1] at g
        have e1 : 2 * 16777216 * sB D e = 4 * (8388608 * sB D e) := by rw [← Nat.mul_assoc]
        omega
      · have e1 : 2 * m * sB D e = 2 * (m * sB D e) := Nat.mul_assoc _ _ _
        omega
      · intro _
        rw [c.1]
    · -- below the power of two: the finer exponent
      have hr := ratio N D (e - 1) 1
      rw [show e - 1 + ((1 : Nat) : Int) = e by omega] at hr
      have hY1 := sB_pos hD (e - 1)
      have hr2 := ratio N D (e - 2) 1
      rw [show e - 2 + ((1 : Nat) : Int) = e - 1 by omega] at hr2
      -- X' = sA N (e - 1), Y' = sB D (e - 1)
      have low : (4 * m - 1) * sB D (e - 1) ≤ 2 * sA N (e - 1) := by
        apply Nat.le_of_mul_le_mul_right _ hB
        rw [hb] at h1
        have a := Nat.mul_le_mul_right (sB D (e - 1)) h1
        calc (4 * m - 1) * sB D (e - 1) * sB D (e - 2) = (4 * m - 1) * sB D (e - 2) * sB D (e - 1) := by ac_rfl
          _ ≤ sA N (e - 2) * sB D (e - 1) := a
          _ = sA N (e - 1) * (sB D (e - 2) * 2 ^ 1) := hr2.symm
          _ = 2 * sA N (e - 1) * sB D (e - 2) := by rw [Nat.pow_one]; ac_rfl
      have high : sA N (e - 1) < 2 * m * sB D (e - 1) := by
        apply Nat.lt_of_mul_lt_mul_right (a := sB D e)
        rw [← hr]
        have g2 : sA N e < m * sB D e := by omega
        calc sA N e * (sB D (e - 1) * 2 ^ 1) < m * sB D e * (sB D (e - 1) * 2 ^ 1) := Nat.mul_lt_mul_of_pos_right g2 (by rw [Nat.pow_one]; omega)
          _ = 2 * m * sB D (e - 1) * sB D e := by rw [Nat.pow_one]; ac_rfl
      refine fin (e - 1) 16777216 ⟨by omega, ?_, ?_⟩ (rup_is hY1 ?_ ?_ ?_) ?_
      · unfold fl
        rw [Nat.div_lt_iff_lt_mul hY1]
        rw [c.1] at high
        exact high
      · by_cases q : e - 1 = -149
        · exact .inl q
        · right
          have hfa := fl_add hD (e - 1 - 1) 1 (N := N)
          unfold fl
          have hr3 := hr2
          have hY2 := sB_pos hD (e - 1 - 1)
          rw [Nat.le_div_iff_mul_le hY2, show e - 1 - 1 = e - 2 by omega]
          rw [hb, c.1] at h1
          exact Nat.le_trans (Nat.mul_le_mul_right _ (by omega)) h1
      · rw [c.1] at low
        have e1 : 2 * 16777216 * sB D (e - 1) = (4 * 8388608 - 1) * sB D (e - 1) + sB D (e - 1) := by
          rw [← Nat.succ_mul]
        omega
      · rw [c.1] at high
        have e1 : 2 * 16777216 * sB D (e - 1) = 2 * (2 * 8388608 * sB D (e - 1)) := by rw [← Nat.mul_assoc]
        omega
      · intro _
        rfl
      · rw [← hwb, c.1]
        unfold wb
        rw [if_pos (by omega), if_pos (by omega)]
        have e1 : (e - 1 + 149).toNat + 1 = (e + 149).toNat := by omega
        rw [← e1]
        congr 1
        omega
  · have hb : bDn m e = 4 * m - 2 := by unfold bDn; rw [if_neg c]; rfl
    rw [hb] at h1 h2
    have low : 2 * m * sB D e ≤ 2 * sA N e + sB D e := by
      have a : (4 * m - 2) * sB D (e - 2) * sB D e ≤ sA N e * (sB D (e - 2) * 4) := by
        rw [hq]
        exact Nat.mul_le_mul_right _ h1
      have b : (2 * m - 1) * sB D e * (sB D (e - 2) * 2) ≤ 2 * sA N e * (sB D (e - 2) * 2) := by
        calc (2 * m - 1) * sB D e * (sB D (e - 2) * 2) = (4 * m - 2) * sB D (e - 2) * sB D e := by
              rw [show 4 * m - 2 = (2 * m - 1) * 2 by omega]
              ac_rfl
          _ ≤ sA N e * (sB D (e - 2) * 4) := a
          _ = 2 * sA N e * (sB D (e - 2) * 2) := by rw [show (4 : Nat) = 2 * 2 from rfl]; ac_rfl
      have b2 := Nat.le_of_mul_le_mul_right b (show 0 < sB D (e - 2) * 2 by omega)
      have e1 : 2 * m * sB D e = (2 * m - 1) * sB D e + sB D e := by rw [← Nat.succ_mul]; congr 1; omega
      omega
    have lowE : 2 * m * sB D e = 2 * sA N e + sB D e → m % 2 = 0 := by
      intro q
      apply h2
      apply Nat.eq_of_mul_eq_mul_right hY
      rw [← hq]
      have e1 : 2 * m * sB D e = (2 * m - 1) * sB D e + sB D e := by rw [← Nat.succ_mul]; congr 1; omega
      have q2 : (2 * m - 1) * sB D e = 2 * sA N e := by omega
      calc (4 * m - 2) * sB D (e - 2) * sB D e = (2 * m - 1) * sB D e * (sB D (e - 2) * 2) := by
            rw [show 4 * m - 2 = (2 * m - 1) * 2 by omega]
            ac_rfl
        _ = 2 * sA N e * (sB D (e - 2) * 2) := by rw [q2]
        _ = sA N e * (sB D (e - 2) * 4) := by rw [show (4 : Nat) = 2 * 2 from rfl]; ac_rfl
    refine fin e m ⟨p3, by omega, ?_⟩ (rup_is hY low up (fun q => q.elim lowE upE)) hwb
    rcases hnorm with q | q
    · exact .inl q
    · by_cases q2 : e = -149
      · exact .inl q2
      · right
        have hm : 8388609 ≤ m := by
          rcases Nat.lt_or_eq_of_le q with r | r
          · exact r
          · exact absurd ⟨r.symm, by omega⟩ c
        apply flE1
        have h5 : 2 * 8388609 * sB D e ≤ 2 * m * sB D e := Nat.mul_le_mul_right _ (by omega)
        have e1 : 2 * 8388609 * sB D e = 2 * 8388608 * sB D e + 2 * sB D e := by rw [← Nat.add_mul]
        have e2 : 2 * 16777216 * sB D e = 2 * (2 * 8388608 * sB D e) := by rw [← Nat.mul_assoc]
        omega
end Go.Proofs.YtpdjpjkieafnbaaGreatDoor.Li.Nw
set_option linter.unusedVariables false
set_option linter.unusedSimpArgs false
namespace Go.Proofs.YtpdjpjkieafnbaaGreatDoor.Li.Nw
open Go.RowKit Lb Nr
/-- What Shortest writes is read as the number. -/
theorem short_back {x : Nat} (hx2 : x < 2139095040) (hk : pKind x = 1 ∨ pKind x = 2) : NB (fwD (pM x) (pE x) * 10 ^ ((fwK (pM x) (pE x) : Int) - tnF (pM x) (pE x)).toNat) (10 ^ (-((fwK (pM x) (pE x) : Int) - tnF (pM x) (pE x))).toNat) x := by
  obtain ⟨p1, p2, p3, p4⟩ := kind_parts hk
  obtain ⟨a1, a2, a3, a4, -, -, -⟩ := fw_main p1 p2 ⟨p3, p4⟩
  have hs := sc3_of p1 p2 ⟨p3, p4⟩
  have l := (hs.loI _).1 a1
  have u := (hs.hiI _).1 a2
  have hN : 0 < fwD (pM x) (pE x) * 10 ^ ((fwK (pM x) (pE x) : Int) - tnF (pM x) (pE x)).toNat := Nat.mul_pos a4 (Nat.pow_pos (by omega))
  have key : ∀ (k : Int) (c j : Nat) (T : Int), k + T = (j : Int) → (∀ n : Nat, n * (10 ^ (-k).toNat * 2 ^ (pE x - 2).toNat) * 10 ^ T.toNat = n * sNum (pE x) T * 10 ^ (-k).toNat) ∧ c * 10 ^ k.toNat * 2 ^ (-(pE x - 2)).toNat * 10 ^ T.toNat = c * 10 ^ j * sDen (pE x) T * 10 ^ (-k).toNat := by
    intro k c j T hje
    have ex : 10 ^ k.toNat * 10 ^ T.toNat = 10 ^ j * (10 ^ (-k).toNat * 10 ^ (-T).toNat) := by
      rw [← Nat.pow_add, ← Nat.pow_add, ← Nat.pow_add]
      congr 1
      omega
    refine ⟨fun n => ?_, ?_⟩
    · unfold sNum
      ac_rfl
    · unfold sDen
      calc c * 10 ^ k.toNat * 2 ^ (-(pE x - 2)).toNat * 10 ^ T.toNat = c * 2 ^ (-(pE x - 2)).toNat * (10 ^ k.toNat * 10 ^ T.toNat) := by ac_rfl
        _ = c * 2 ^ (-(pE x - 2)).toNat * (10 ^ j * (10 ^ (-k).toNat * 10 ^ (-T).toNat)) := by rw [ex]
        _ = c * 10 ^ j * (10 ^ (-T).toNat * 2 ^ (-(pE x - 2)).toNat) * 10 ^ (-k).toNat := by ac_rfl
  obtain ⟨f1, f2⟩ := key ((fwK (pM x) (pE x) : Int) - tnF (pM x) (pE x)) (fwD (pM x) (pE x)) (fwK (pM x) (pE x)) (tnF (pM x) (pE x)) (by omega)
  have hKm : 0 < 10 ^ (-((fwK (pM x) (pE x) : Int) - tnF (pM x) (pE x))).toNat := Nat.pow_pos (by omega)
  have hTp : 0 < 10 ^ (tnF (pM x) (pE x)).toNat := Nat.pow_pos (by omega)
  have le_to : ∀ n : Nat, n * sNum (pE x) (tnF (pM x) (pE x)) ≤ fwD (pM x) (pE x) * 10 ^ fwK (pM x) (pE x) * sDen (pE x) (tnF (pM x) (pE x)) → n * sB (10 ^ (-((fwK (pM x) (pE x) : Int) - tnF (pM x) (pE x))).toNat) (pE x - 2) ≤ sA (fwD (pM x) (pE x) * 10 ^ ((fwK (pM x) (pE x) : Int) - tnF (pM x) (pE x)).toNat) (pE x - 2) := by
    intro n h
    unfold sA sB
    apply Nat.le_of_mul_le_mul_right _ hTp
    rw [f1, f2]
    exact Nat.mul_le_mul_right _ h
  have ge_to : ∀ n : Nat, fwD (pM x) (pE x) * 10 ^ fwK (pM x) (pE x) * sDen (pE x) (tnF (pM x) (pE x)) ≤ n * sNum (pE x) (tnF (pM x) (pE x)) → sA (fwD (pM x) (pE x) * 10 ^ ((fwK (pM x) (pE x) : Int) - tnF (pM x) (pE x)).toNat) (pE x - 2) ≤ n * sB (10 ^ (-((fwK (pM x) (pE x) : Int) - tnF (pM x) (pE x))).toNat) (pE x - 2) := by
    intro n h
    unfold sA sB
    apply Nat.le_of_mul_le_mul_right _ hTp
    rw [f1, f2]
    exact Nat.mul_le_mul_right _ h
  have eq_of : ∀ n : Nat, n * sB (10 ^ (-((fwK (pM x) (pE x) : Int) - tnF (pM x) (pE x))).toNat) (pE x - 2) = sA (fwD (pM x) (pE x) * 10 ^ ((fwK (pM x) (pE x) : Int) - tnF (pM x) (pE x)).toNat) (pE x - 2) → n * sNum (pE x) (tnF (pM x) (pE x)) = fwD (pM x) (pE x) * 10 ^ fwK (pM x) (pE x) * sDen (pE x) (tnF (pM x) (pE x)) := by
    intro n h
    unfold sA sB at h
    apply Nat.eq_of_mul_eq_mul_right hKm
    rw [← f1, ← f2, h]
  refine quart_back hN (Nat.pow_pos (by omega)) hx2 hk (le_to _ ?_) (fun q => ?_) (ge_to _ ?_) (fun q => ?_)
  · rcases l with g | g
    · exact Nat.le_of_lt g
    · exact Nat.le_of_eq g.1
  · have e := eq_of _ q
    rcases l with g | g
    · exact absurd e (Nat.ne_of_lt g)
    · exact g.2
  · rcases u with g | g
    · exact Nat.le_of_lt g
    · exact Nat.le_of_eq g.1
  · have e := eq_of _ q.symm
    rcases u with g | g
    · exact absurd e.symm (Nat.ne_of_lt g)
    · exact g.2
end Go.Proofs.YtpdjpjkieafnbaaGreatDoor.Li.Nw
