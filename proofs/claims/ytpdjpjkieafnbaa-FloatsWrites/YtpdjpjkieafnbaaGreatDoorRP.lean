import Derived.Test.YtpdjpjkieafnbaaGreatDoorSM5
import Derived.Test.YtpdjpjkieafnbaaGreatDoorR14
set_option linter.unusedVariables false
set_option linter.unusedSimpArgs false
namespace Go.Proofs.YtpdjpjkieafnbaaGreatDoor.Li
open Go.RowKit Lb Nr
/-- A quotient that lies half a unit from a whole number at most is rounded to it. -/
theorem rup_is {X Y m : Nat} (hY : 0 < Y) (h1 : 2 * m * Y ≤ 2 * X + Y) (h2 : 2 * X ≤ 2 * m * Y + Y) (h3 : 2 * m * Y = 2 * X + Y ∨ 2 * X = 2 * m * Y + Y → m % 2 = 0) : Nr.rup X Y = m := by
  unfold Nr.rup
  have hX := Nat.div_add_mod X Y
  have hr := Nat.mod_lt X hY
  generalize X / Y = q at *
  generalize X % Y = r at *
  rcases Nat.lt_trichotomy q m with c | c | c
  · have c2 : q + 1 = m := by
      rcases Nat.lt_or_ge (q + 1) m with g | g
      · exfalso
        have := Nat.mul_le_mul_left Y (show q + 2 ≤ m by omega)
        rw [Nat.mul_add] at this
        have e : 2 * m * Y = 2 * (Y * m) := by rw [Nat.mul_assoc, Nat.mul_comm m Y]
        omega
      · omega
    subst c2
    have e : 2 * (q + 1) * Y = 2 * (Y * q) + 2 * Y := by rw [Nat.mul_assoc, Nat.mul_comm (q + 1) Y, Nat.mul_add]; omega
    rw [if_pos]
    by_cases g : 2 * r = Y
    · right
      refine ⟨g, ?_⟩
      have := h3 (.inl (by omega))
      omega
    · left
      omega
  · subst c
    have e : 2 * q * Y = 2 * (Y * q) := by rw [Nat.mul_assoc, Nat.mul_comm q Y]
    rw [if_neg]
    rintro (g | ⟨g, g2⟩)
    · omega
    · have := h3 (.inr (by omega))
      omega
  · exfalso
    have := Nat.mul_le_mul_left Y (show m + 1 ≤ q by omega)
    rw [Nat.mul_add] at this
    have e : 2 * m * Y = 2 * (Y * m) := by rw [Nat.mul_assoc, Nat.mul_comm m Y]
    omega
theorem wb_parts {x : Nat} (hx2 : x < 9218868437227405312) (hk : pKind x = 1 ∨ pKind x = 2) : wb (pM x) (pE x) = x ∧ (pE x = -1074 ∨ 4503599627370496 ≤ pM x) := by
  have hf : pField x < 2047 := by unfold pField; omega
  have hxe : x = pField x * 4503599627370496 + pKept x := by unfold pField pKept; omega
  have hkp : pKept x < 4503599627370496 := Nat.mod_lt _ (by omega)
  unfold pKind at hk
  rw [if_neg (by omega)] at hk
  by_cases c : 0 < pField x
  · have hM : pM x = 4503599627370496 + pKept x := by unfold pM; rw [if_pos ⟨c, hf⟩]
    have hE : pE x = -1074 + (pField x : Int) - 1 := by unfold pE; rw [if_neg (by omega), if_pos c]
    rw [hM, hE]
    generalize pField x = f at *
    generalize pKept x = p at *
    refine ⟨?_, .inr (by omega)⟩
    unfold wb
    rw [if_pos (by omega)]
    have e : (-1074 + (f : Int) - 1 + 1074).toNat = f - 1 := by omega
    rw [e]
    have e2 : (f - 1) * 4503599627370496 + 4503599627370496 = f * 4503599627370496 := by
      rw [← Nat.succ_mul]; congr 1; omega
    omega
  · rw [if_neg c] at hk
    have hp : 0 < pKept x := by
      rcases Nat.eq_zero_or_pos (pKept x) with q | q
      · rw [q] at hk; simp at hk
      · exact q
    have hM : pM x = pKept x := by unfold pM; rw [if_neg (fun q => c q.1)]
    have hE : pE x = -1074 := by unfold pE; rw [if_neg (by omega), if_neg c, if_pos hp]
    have f0 : pField x = 0 := by omega
    rw [f0] at hxe
    rw [hM, hE]
    unfold wb
    rw [if_neg (by omega)]
    exact ⟨by omega, .inl rfl⟩
/-- A quotient between the borders is read as the number. -/
theorem quart_back {N D x : Nat} (hN : 0 < N) (hD : 0 < D) (hx2 : x < 9218868437227405312) (hk : pKind x = 1 ∨ pKind x = 2) (h1 : bDn (pM x) (pE x) * sB D (pE x - 2) ≤ sA N (pE x - 2)) (h2 : bDn (pM x) (pE x) * sB D (pE x - 2) = sA N (pE x - 2) → pM x % 2 = 0) (h3 : sA N (pE x - 2) ≤ (4 * pM x + 2) * sB D (pE x - 2)) (h4 : sA N (pE x - 2) = (4 * pM x + 2) * sB D (pE x - 2) → pM x % 2 = 0) : NB N D x := by
  obtain ⟨hwb, hnorm⟩ := wb_parts hx2 hk
  obtain ⟨p1, p2, p3, p4⟩ := kind_parts hk
  generalize pM x = m at *
  generalize pE x = e at *
  have hY := sB_pos hD e
  have hB := sB_pos hD (e - 2)
  have hq := quart_eq N D e
  -- twice and four times
  have fin : ∀ E M, IsE N D E → Nr.rup (sA N E) (sB D E) = M → wb M E = x → NB N D x := by
    intro E M hE hM hw
    refine ⟨fun q => by omega, fun _ E' hE' => ?_⟩
    rw [isE_one hD hE' hE]
    show x = wb (Nr.rup (sA N E) (sB D E)) E
    rw [hM, hw]
  have up : 2 * sA N e ≤ 2 * m * sB D e + sB D e := by
    apply Nat.le_of_mul_le_mul_right _ (show 0 < sB D (e - 2) * 2 by omega)
    calc 2 * sA N e * (sB D (e - 2) * 2) = sA N e * (sB D (e - 2) * 4) := by rw [show (4 : Nat) = 2 * 2 from rfl]; ac_rfl
      _ = sA N (e - 2) * sB D e := hq
      _ ≤ (4 * m + 2) * sB D (e - 2) * sB D e := Nat.mul_le_mul_right _ h3
      _ = (2 * m * sB D e + sB D e) * (sB D (e - 2) * 2) := by
        rw [show 4 * m + 2 = (2 * m + 1) * 2 by omega, show 2 * m * sB D e + sB D e = (2 * m + 1) * sB D e by rw [Nat.add_mul, Nat.one_mul]]
        ac_rfl
  have upE : 2 * sA N e = 2 * m * sB D e + sB D e → m % 2 = 0 := by
    intro q
    apply h4
    apply Nat.eq_of_mul_eq_mul_right hY
    rw [← hq]
    calc sA N e * (sB D (e - 2) * 4) = 2 * sA N e * (sB D (e - 2) * 2) := by rw [show (4 : Nat) = 2 * 2 from rfl]; ac_rfl
      _ = (2 * m * sB D e + sB D e) * (sB D (e - 2) * 2) := by rw [q]
      _ = (4 * m + 2) * sB D (e - 2) * sB D e := by
        rw [show 4 * m + 2 = (2 * m + 1) * 2 by omega, show 2 * m * sB D e + sB D e = (2 * m + 1) * sB D e by rw [Nat.add_mul, Nat.one_mul]]
        ac_rfl
  have flE : fl N D e ≤ m := by
    unfold fl
    rw [← Nat.lt_succ_iff, Nat.div_lt_iff_lt_mul hY, Nat.succ_mul]
    have e1 : 2 * m * sB D e = 2 * (m * sB D e) := Nat.mul_assoc _ _ _
    omega
  have flE1 : ∀ C, 2 * C * sB D e ≤ 2 * (2 * sA N e) → C ≤ fl N D (e - 1) := by
    intro C hC
    have hr := ratio N D (e - 1) 1
    rw [show e - 1 + ((1 : Nat) : Int) = e by omega] at hr
    have hY1 := sB_pos hD (e - 1)
    unfold fl
    rw [Nat.le_div_iff_mul_le hY1]
    apply Nat.le_of_mul_le_mul_right _ hY
    rw [← hr]
    have e1 : C * sB D (e - 1) * sB D e = (C * sB D e) * sB D (e - 1) := by ac_rfl
    have e2 : sA N e * (sB D (e - 1) * 2 ^ 1) = (2 * sA N e) * sB D (e - 1) := by rw [Nat.pow_one]; ac_rfl
    rw [e1, e2]
    exact Nat.mul_le_mul_right _ (by have : 2 * C * sB D e = 2 * (C * sB D e) := Nat.mul_assoc _ _ _
                                     omega)
  by_cases c : m = 4503599627370496 ∧ -1074 < e
  · have hb : bDn m e = 4 * m - 1 := by unfold bDn; rw [if_pos c]; omega
    by_cases g : m * sB D e ≤ sA N e
    · refine fin e m ⟨p3, by omega, .inr (flE1 _ ?_)⟩ (rup_is hY ?_ up ?_) hwb
      · rw [c.1] at g
        have e1 : 2 * 9007199254740992 * sB D e = 4 * (4503599627370496 * sB D e) := by rw [← Nat.mul_assoc]
        omega
      · have e1 : 2 * m * sB D e = 2 * (m * sB D e) := Nat.mul_assoc _ _ _
        omega
      · intro _
        rw [c.1]
    · -- below the power of two: the finer exponent
      have hr := ratio N D (e - 1) 1
      rw [show e - 1 + ((1 : Nat) : Int) = e by omega] at hr
      have hY1 := sB_pos hD (e - 1)
      have hr2 := ratio N D (e - 2) 1
      rw [show e - 2 + ((1 : Nat) : Int) = e - 1 by omega] at hr2
      -- X' = sA N (e - 1), Y' = sB D (e - 1)
      have low : (4 * m - 1) * sB D (e - 1) ≤ 2 * sA N (e - 1) := by
        apply Nat.le_of_mul_le_mul_right _ hB
        rw [hb] at h1
        have a := Nat.mul_le_mul_right (sB D (e - 1)) h1
        calc (4 * m - 1) * sB D (e - 1) * sB D (e - 2) = (4 * m - 1) * sB D (e - 2) * sB D (e - 1) := by ac_rfl
          _ ≤ sA N (e - 2) * sB D (e - 1) := a
          _ = sA N (e - 1) * (sB D (e - 2) * 2 ^ 1) := hr2.symm
          _ = 2 * sA N (e - 1) * sB D (e - 2) := by rw [Nat.pow_one]; ac_rfl
      have high : sA N (e - 1) < 2 * m * sB D (e - 1) := by
        apply Nat.lt_of_mul_lt_mul_right (a := sB D e)
        rw [← hr]
        have g2 : sA N e < m * sB D e := by omega
        calc sA N e * (sB D (e - 1) * 2 ^ 1) < m * sB D e * (sB D (e - 1) * 2 ^ 1) := Nat.mul_lt_mul_of_pos_right g2 (by rw [Nat.pow_one]; omega)
          _ = 2 * m * sB D (e - 1) * sB D e := by rw [Nat.pow_one]; ac_rfl
      refine fin (e - 1) 9007199254740992 ⟨by omega, ?_, ?_⟩ (rup_is hY1 ?_ ?_ ?_) ?_
      · unfold fl
        rw [Nat.div_lt_iff_lt_mul hY1]
        rw [c.1] at high
        exact high
      · by_cases q : e - 1 = -1074
        · exact .inl q
        · right
          have hfa := fl_add hD (e - 1 - 1) 1 (N := N)
          unfold fl
          have hr3 := hr2
          have hY2 := sB_pos hD (e - 1 - 1)
          rw [Nat.le_div_iff_mul_le hY2, show e - 1 - 1 = e - 2 by omega]
          rw [hb, c.1] at h1
          exact Nat.le_trans (Nat.mul_le_mul_right _ (by omega)) h1
      · rw [c.1] at low
        have e1 : 2 * 9007199254740992 * sB D (e - 1) = (4 * 4503599627370496 - 1) * sB D (e - 1) + sB D (e - 1) := by
          rw [← Nat.succ_mul]
        omega
      · rw [c.1] at high
        have e1 : 2 * 9007199254740992 * sB D (e - 1) = 2 * (2 * 4503599627370496 * sB D (e - 1)) := by rw [← Nat.mul_assoc]
        omega
      · intro _
        rfl
      · rw [← hwb, c.1]
        unfold wb
        rw [if_pos (by omega), if_pos (by omega)]
        have e1 : (e - 1 + 1074).toNat + 1 = (e + 1074).toNat := by omega
        rw [← e1]
        congr 1
        omega
  · have hb : bDn m e = 4 * m - 2 := by unfold bDn; rw [if_neg c]; rfl
    rw [hb] at h1 h2
    have low : 2 * m * sB D e ≤ 2 * sA N e + sB D e := by
      have a : (4 * m - 2) * sB D (e - 2) * sB D e ≤ sA N e * (sB D (e - 2) * 4) := by
        rw [hq]
        exact Nat.mul_le_mul_right _ h1
      have b : (2 * m - 1) * sB D e * (sB D (e - 2) * 2) ≤ 2 * sA N e * (sB D (e - 2) * 2) := by
        calc (2 * m - 1) * sB D e * (sB D (e - 2) * 2) = (4 * m - 2) * sB D (e - 2) * sB D e := by
              rw [show 4 * m - 2 = (2 * m - 1) * 2 by omega]
              ac_rfl
          _ ≤ sA N e * (sB D (e - 2) * 4) := a
          _ = 2 * sA N e * (sB D (e - 2) * 2) := by rw [show (4 : Nat) = 2 * 2 from rfl]; ac_rfl
      have b2 := Nat.le_of_mul_le_mul_right b (show 0 < sB D (e - 2) * 2 by omega)
      have e1 : 2 * m * sB D e = (2 * m - 1) * sB D e + sB D e := by rw [← Nat.succ_mul]; congr 1; omega
      omega
    have lowE : 2 * m * sB D e = 2 * sA N e + sB D e → m % 2 = 0 := by
      intro q
      apply h2
      apply Nat.eq_of_mul_eq_mul_right hY
      rw [← hq]
      have e1 : 2 * m * sB D e = (2 * m - 1) * sB D e + sB D e := by rw [← Nat.succ_mul]; congr 1; omega
      have q2 : (2 * m - 1) * sB D e = 2 * sA N e := by omega
      calc (4 * m - 2) * sB D (e - 2) * sB D e = (2 * m - 1) * sB D e * (sB D (e - 2) * 2) := by
            rw [show 4 * m - 2 = (2 * m - 1) * 2 by omega]
            ac_rfl
        _ = 2 * sA N e * (sB D (e - 2) * 2) := by rw [q2]
        _ = sA N e * (sB D (e - 2) * 4) := by rw [show (4 : Nat) = 2 * 2 from rfl]; ac_rfl
    refine fin e m ⟨p3, by omega, ?_⟩ (rup_is hY low up (fun q => q.elim lowE upE)) hwb
    rcases hnorm with q | q
    · exact .inl q
    · by_cases q2 : e = -1074
      · exact .inl q2
      · right
        have hm : 4503599627370497 ≤ m := by
          rcases Nat.lt_or_eq_of_le q with r | r
          · exact r
          · exact absurd ⟨r.symm, by omega⟩ c
        apply flE1
        have h5 : 2 * 4503599627370497 * sB D e ≤ 2 * m * sB D e := Nat.mul_le_mul_right _ (by omega)
        have e1 : 2 * 4503599627370497 * sB D e = 2 * 4503599627370496 * sB D e + 2 * sB D e := by rw [← Nat.add_mul]
        have e2 : 2 * 9007199254740992 * sB D e = 2 * (2 * 4503599627370496 * sB D e) := by rw [← Nat.mul_assoc]
        omega
end Go.Proofs.YtpdjpjkieafnbaaGreatDoor.Li
set_option linter.unusedVariables false
set_option linter.unusedSimpArgs false
namespace Go.Proofs.YtpdjpjkieafnbaaGreatDoor.Li
open Go.RowKit Lb Nr
/-- What Shortest writes is read as the number. -/
theorem short_back {x : Nat} (hx2 : x < 9218868437227405312) (hk : pKind x = 1 ∨ pKind x = 2) : NB (fwD (pM x) (pE x) * 10 ^ ((fwK (pM x) (pE x) : Int) - tnF (pM x) (pE x)).toNat) (10 ^ (-((fwK (pM x) (pE x) : Int) - tnF (pM x) (pE x))).toNat) x := by
  obtain ⟨p1, p2, p3, p4⟩ := kind_parts hk
  obtain ⟨a1, a2, a3, a4, -, -, -⟩ := fw_main p1 p2 ⟨p3, p4⟩
  have hs := sc3_of p1 p2 ⟨p3, p4⟩
  have l := (hs.loI _).1 a1
  have u := (hs.hiI _).1 a2
  have hN : 0 < fwD (pM x) (pE x) * 10 ^ ((fwK (pM x) (pE x) : Int) - tnF (pM x) (pE x)).toNat := Nat.mul_pos a4 (Nat.pow_pos (by omega))
  have key : ∀ (k : Int) (c j : Nat) (T : Int), k + T = (j : Int) → (∀ n : Nat, n * (10 ^ (-k).toNat * 2 ^ (pE x - 2).toNat) * 10 ^ T.toNat = n * sNum (pE x) T * 10 ^ (-k).toNat) ∧ c * 10 ^ k.toNat * 2 ^ (-(pE x - 2)).toNat * 10 ^ T.toNat = c * 10 ^ j * sDen (pE x) T * 10 ^ (-k).toNat := by
    intro k c j T hje
    have ex : 10 ^ k.toNat * 10 ^ T.toNat = 10 ^ j * (10 ^ (-k).toNat * 10 ^ (-T).toNat) := by
      rw [← Nat.pow_add, ← Nat.pow_add, ← Nat.pow_add]
      congr 1
      omega
    refine ⟨fun n => ?_, ?_⟩
    · unfold sNum
      ac_rfl
    · unfold sDen
      calc c * 10 ^ k.toNat * 2 ^ (-(pE x - 2)).toNat * 10 ^ T.toNat = c * 2 ^ (-(pE x - 2)).toNat * (10 ^ k.toNat * 10 ^ T.toNat) := by ac_rfl
        _ = c * 2 ^ (-(pE x - 2)).toNat * (10 ^ j * (10 ^ (-k).toNat * 10 ^ (-T).toNat)) := by rw [ex]
        _ = c * 10 ^ j * (10 ^ (-T).toNat * 2 ^ (-(pE x - 2)).toNat) * 10 ^ (-k).toNat := by ac_rfl
  obtain ⟨f1, f2⟩ := key ((fwK (pM x) (pE x) : Int) - tnF (pM x) (pE x)) (fwD (pM x) (pE x)) (fwK (pM x) (pE x)) (tnF (pM x) (pE x)) (by omega)
  have hKm : 0 < 10 ^ (-((fwK (pM x) (pE x) : Int) - tnF (pM x) (pE x))).toNat := Nat.pow_pos (by omega)
  have hTp : 0 < 10 ^ (tnF (pM x) (pE x)).toNat := Nat.pow_pos (by omega)
  have le_to : ∀ n : Nat, n * sNum (pE x) (tnF (pM x) (pE x)) ≤ fwD (pM x) (pE x) * 10 ^ fwK (pM x) (pE x) * sDen (pE x) (tnF (pM x) (pE x)) → n * sB (10 ^ (-((fwK (pM x) (pE x) : Int) - tnF (pM x) (pE x))).toNat) (pE x - 2) ≤ sA (fwD (pM x) (pE x) * 10 ^ ((fwK (pM x) (pE x) : Int) - tnF (pM x) (pE x)).toNat) (pE x - 2) := by
    intro n h
    unfold sA sB
    apply Nat.le_of_mul_le_mul_right _ hTp
    rw [f1, f2]
    exact Nat.mul_le_mul_right _ h
  have ge_to : ∀ n : Nat, fwD (pM x) (pE x) * 10 ^ fwK (pM x) (pE x) * sDen (pE x) (tnF (pM x) (pE x)) ≤ n * sNum (pE x) (tnF (pM x) (pE x)) → sA (fwD (pM x) (pE x) * 10 ^ ((fwK (pM x) (pE x) : Int) - tnF (pM x) (pE x)).toNat) (pE x - 2) ≤ n * sB (10 ^ (-((fwK (pM x) (pE x) : Int) - tnF (pM x) (pE x))).toNat) (pE x - 2) := by
    intro n h
    unfold sA sB
    apply Nat.le_of_mul_le_mul_right _ hTp
    rw [f1, f2]
    exact Nat.mul_le_mul_right _ h
  have eq_of : ∀ n : Nat, n * sB (10 ^ (-((fwK (pM x) (pE x) : Int) - tnF (pM x) (pE x))).toNat) (pE x - 2) = sA (fwD (pM x) (pE x) * 10 ^ ((fwK (pM x) (pE x) : Int) - tnF (pM x) (pE x)).toNat) (pE x - 2) → n * sNum (pE x) (tnF (pM x) (pE x)) = fwD (pM x) (pE x) * 10 ^ fwK (pM x) (pE x) * sDen (pE x) (tnF (pM x) (pE x)) := by
    intro n h
    unfold sA sB at h
    apply Nat.eq_of_mul_eq_mul_right hKm
    rw [← f1, ← f2, h]
  refine quart_back hN (Nat.pow_pos (by omega)) hx2 hk (le_to _ ?_) (fun q => ?_) (ge_to _ ?_) (fun q => ?_)
  · rcases l with g | g
    · exact Nat.le_of_lt g
    · exact Nat.le_of_eq g.1
  · have e := eq_of _ q
    rcases l with g | g
    · exact absurd e (Nat.ne_of_lt g)
    · exact g.2
  · rcases u with g | g
    · exact Nat.le_of_lt g
    · exact Nat.le_of_eq g.1
  · have e := eq_of _ q.symm
    rcases u with g | g
    · exact absurd e.symm (Nat.ne_of_lt g)
    · exact g.2
end Go.Proofs.YtpdjpjkieafnbaaGreatDoor.Li
set_option linter.unusedVariables false
set_option linter.unusedSimpArgs false
namespace Go.Proofs.YtpdjpjkieafnbaaGreatDoor.Li
open Go.RowKit Lb Nr
end Go.Proofs.YtpdjpjkieafnbaaGreatDoor.Li
