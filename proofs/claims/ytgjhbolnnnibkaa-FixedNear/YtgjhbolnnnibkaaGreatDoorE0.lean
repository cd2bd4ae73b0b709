import Derived.Test.YtgjhbolnnnibkaaGreatDoorFLW
set_option linter.unusedVariables false
set_option linter.unusedSimpArgs false
namespace Go.Proofs.YtgjhbolnnnibkaaGreatDoor
open Go.RowKit Go.Shelf
/-- A text of a sign, digits, and a part of any length, taken apart as Rounded does. -/
theorem apartO {ng : Bool} {D P : List UInt8} {s : List UInt8} (hs : s = (if ng then [45] else []) ++ (D ++ P)) (hD : allD D) (hD0 : D ≠ []) (hP : P = [] ∨ ∃ F, P = 46 :: F ∧ allD F ∧ F ≠ []) :
    pNg s = ng ∧ oGood s ∧ oN s = mv (nat (D ++ P.drop 1)) (0 - ((P.drop 1).length : Int) + 6) := by
  obtain ⟨K, hK⟩ : ∃ K, (if ng then 1 else 0) = K := ⟨_, rfl⟩
  have hdrop : s.drop K = D ++ P := by
    rw [hs, ← hK]
    cases ng <;> simp
  have hlen : s.length = K + (D ++ P).length := by
    rw [hs, ← hK]
    cases ng <;> simp [Nat.add_comm]
  have hng : pNg s = ng := by
    cases ng with
    | true =>
      rw [hs]
      unfold pNg tk
      simp
    | false =>
      obtain ⟨d, D', rfl⟩ : ∃ d D', D = d :: D' := by
        cases D with
        | nil => exact absurd rfl hD0
        | cons d D' => exact ⟨d, D', rfl⟩
      rw [hs]
      unfold pNg tk
      apply decide_eq_false
      rintro ⟨-, h⟩
      have h2 : d = 45 := by simpa using h
      have := hD d (List.mem_cons_self ..)
      rw [h2] at this
      exact absurd this (by decide)
  have hk1 : pK1 s = K := by unfold pK1; rw [hng]; exact hK
  have hPd : P.takeWhile isD = [] := by
    rcases hP with rfl | ⟨F, rfl, -⟩
    · rfl
    · rw [List.takeWhile_cons_of_neg (by decide)]
  have hwh : pWh s = D := by
    unfold pWh dg
    rw [hk1, hdrop, List.takeWhile_append_of_pos hD, hPd, List.append_nil]
    apply List.take_of_length_le
    rw [hlen, List.length_append]
    omega
  have hk2 : pK2 s = K + D.length := by unfold pK2; rw [hk1, hwh]
  have hwb : (pWh s == []) = false := by rw [hwh]; simpa using hD0
  have hdr2 : s.drop (K + D.length) = P := by
    rw [← List.drop_drop, hdrop, List.drop_left]
  have fin : ∀ F, oPt s = F → pK3 s.length s = s.length → pOk s.length s = true → oGood s ∧ oN s = mv (nat (D ++ F)) (0 - (F.length : Int) + 6) := by
    intro F e1 e2 e3
    have hoK : oK s = s.length := e2
    have he : qE s (oK s) = false := by
      unfold qE tk
      apply decide_eq_false
      rintro ⟨a, -⟩
      omega
    have hend : oEnd s = s.length := by unfold oEnd qK; rw [e3, he]; exact hoK
    refine ⟨⟨by unfold oOk qOk; rw [e3, he]; rfl, hend⟩, ?_⟩
    unfold oN qP
    rw [he, e1, hwh]
    rfl
  rcases hP with rfl | ⟨F, rfl, hF, hF0⟩
  · have hd : pDot s = false := by
      unfold pDot
      rw [hk2, ← tkDrop, hdr2]
      simp [tk]
    have e1 : oPt s = [] := by unfold oPt pPt; rw [hd]; rfl
    have e2 : pK3 s.length s = s.length := by unfold pK3; rw [hd, hk2, hlen]; simp
    have e3 : pOk s.length s = true := by unfold pOk; rw [hwb, hd]; rfl
    exact ⟨hng, fin [] e1 e2 e3⟩
  · have hd : pDot s = true := by
      unfold pDot
      rw [hwb, hk2, ← tkDrop, hdr2]
      simp [tk]
    have hdr3 : s.drop (K + D.length + 1) = F := by
      rw [← List.drop_drop, hdr2]
      rfl
    have e1 : oPt s = F := by
      unfold oPt pPt dg
      rw [hd, hk2, hdr3]
      have : F.takeWhile isD = F := by
        have := List.takeWhile_append_of_pos (p := isD) (l₁ := F) (l₂ := []) hF
        simpa using this
      rw [this]
      apply List.take_of_length_le
      rw [hlen]
      simp
      omega
    have e1' : pPt s.length s = F := e1
    have e2 : pK3 s.length s = s.length := by unfold pK3; rw [hd, e1', hk2, hlen]; simp; omega
    have e3 : pOk s.length s = true := by
      unfold pOk
      have : (F == []) = false := by simpa using hF0
      rw [hwb, hd, e1', this]
      rfl
    exact ⟨hng, fin F e1 e2 e3⟩
/-- The exact digits of m times 2^e. -/
def exZ (k : Nat) (d : List UInt8) : List UInt8 := List.replicate (k + 1 - d.length) 48 ++ d
def exD (m : Nat) (e : Int) : List UInt8 := if 0 ≤ e then dD (m * 2 ^ e.toNat) else (exZ (-e).toNat (dD (m * 5 ^ (-e).toNat))).take ((exZ (-e).toNat (dD (m * 5 ^ (-e).toNat))).length - (-e).toNat) ++ 46 :: (exZ (-e).toNat (dD (m * 5 ^ (-e).toNat))).drop ((exZ (-e).toNat (dD (m * 5 ^ (-e).toNat))).length - (-e).toNat)
theorem exZ_len (k : Nat) (d : List UInt8) : k + 1 ≤ (exZ k d).length := by unfold exZ; rw [List.length_append, List.length_replicate]; omega
theorem exZ_d (k : Nat) {d : List UInt8} (h : allD d) : allD (exZ k d) := (allD.zeros _).app h
theorem exZ_nat (k : Nat) (d : List UInt8) : nat (exZ k d) = nat d := by unfold exZ; rw [nat_append, nat_zeros]; simp
theorem rupF_ratio {X Y X' Y' : Nat} (hY : 0 < Y) (hY' : 0 < Y') (h : X * Y' = X' * Y) : rup X Y = rup X' Y' := by
  have e1 := Nat.div_add_mod X Y
  have e2 := Nat.div_add_mod X' Y'
  have l1 := Nat.mod_lt X hY
  have l2 := Nat.mod_lt X' hY'
  have eq : X / Y = X' / Y' := by
    have a : X * Y' / (Y * Y') = X / Y := Nat.mul_div_mul_right X Y hY'
    have b : X' * Y / (Y' * Y) = X' / Y' := Nat.mul_div_mul_right X' Y' hY
    rw [← a, ← b, h, Nat.mul_comm Y Y']
  have er : (X % Y) * Y' = (X' % Y') * Y := by
    have a : X * Y' = Y * Y' * (X / Y) + (X % Y) * Y' := by
      conv => lhs; rw [← e1]
      rw [Nat.add_mul, Nat.mul_right_comm]
    have b : X' * Y = Y * Y' * (X' / Y') + (X' % Y') * Y := by
      conv => lhs; rw [← e2]
      rw [Nat.add_mul, Nat.mul_right_comm, Nat.mul_comm Y' Y]
    rw [eq] at a
    omega
  unfold rup
  rw [eq]
  generalize X % Y = r at *
  generalize X' % Y' = r' at *
  have c1 : Y < 2 * r ↔ Y' < 2 * r' := by
    constructor
    · intro q
      have q2 : Y * Y' < 2 * r * Y' := Nat.mul_lt_mul_of_pos_right q hY'
      rw [Nat.mul_assoc, er, ← Nat.mul_assoc, Nat.mul_comm Y Y'] at q2
      exact Nat.lt_of_mul_lt_mul_right q2
    · intro q
      have q2 : Y' * Y < 2 * r' * Y := Nat.mul_lt_mul_of_pos_right q hY
      rw [Nat.mul_assoc, ← er, ← Nat.mul_assoc, Nat.mul_comm Y' Y] at q2
      exact Nat.lt_of_mul_lt_mul_right q2
  have c2 : 2 * r = Y ↔ 2 * r' = Y' := by
    constructor
    · intro q
      have q2 : 2 * r * Y' = Y * Y' := by rw [q]
      rw [Nat.mul_assoc, er, ← Nat.mul_assoc, Nat.mul_comm Y Y'] at q2
      exact Nat.eq_of_mul_eq_mul_right hY q2
    · intro q
      have q2 : 2 * r' * Y = Y' * Y := by rw [q]
      rw [Nat.mul_assoc, ← er, ← Nat.mul_assoc, Nat.mul_comm Y' Y] at q2
      exact Nat.eq_of_mul_eq_mul_right hY' q2
  simp only [c1, c2]
theorem rupF_one (x : Nat) : rup x 1 = x := by
  unfold rup
  simp [Nat.mod_one]
theorem mv_rup (N k : Nat) : mv N (0 - (k : Int) + 6) = rup (N * 1000000) (10 ^ k) := by
  have hp : ∀ j, 0 < 10 ^ j := fun j => Nat.pow_pos (by omega)
  by_cases h : k ≤ 6
  · have e : mv N (0 - (k : Int) + 6) = N * 10 ^ (6 - k) := by
      unfold mv
      rw [if_pos (by omega), show (0 - (k : Int) + 6).toNat = 6 - k by omega]
    rw [e, ← rupF_one (N * 10 ^ (6 - k))]
    apply rupF_ratio (by omega) (hp k)
    rw [Nat.mul_assoc, ← Nat.pow_add, show 6 - k + k = 6 by omega]
    simp
  · have e : mv N (0 - (k : Int) + 6) = rup N (10 ^ (k - 6)) := by
      unfold mv
      rw [if_neg (by omega), show (-(0 - (k : Int) + 6)).toNat = k - 6 by omega]
    rw [e]
    apply rupF_ratio (hp _) (hp k)
    rw [Nat.mul_assoc]
    congr 1
    rw [show (1000000 : Nat) = 10 ^ 6 from rfl, ← Nat.pow_add, show 6 + (k - 6) = k by omega]
/-- What Rounded says of the exact digits: the quotient, rounded. -/
theorem exact_rounded (ng : Bool) (m : Nat) (e : Int) {num den : Nat} (hden : 0 < den) (h : if 0 ≤ e then m * 2 ^ e.toNat * den = num else m * den = num * 2 ^ (-e).toNat) {s : List UInt8} (hs : s = (if ng then [45] else []) ++ exD m e) :
    pNg s = ng ∧ oGood s ∧ oN s = rup (num * 1000000) den := by
  unfold exD at hs
  by_cases he : 0 ≤ e
  · rw [if_pos he] at hs h
    have hs2 : s = (if ng then [45] else []) ++ (dD (m * 2 ^ e.toNat) ++ []) := by rw [hs, List.append_nil]
    obtain ⟨a, b, c⟩ := apartO hs2 (dD_d _ _ (Nat.le_refl _)) (dD_ne _) (.inl rfl)
    refine ⟨a, b, ?_⟩
    rw [c]
    show mv (nat (dD (m * 2 ^ e.toNat) ++ [])) (0 - ((0 : Nat) : Int) + 6) = _
    rw [List.append_nil, dD_nat _ _ (Nat.le_refl _), mv_rup]
    apply rupF_ratio (by simp) hden
    rw [← h]
    simp only [Nat.pow_zero, Nat.mul_one]
    rw [Nat.mul_right_comm]
  · rw [if_neg he] at hs h
    obtain ⟨k, hk⟩ : ∃ k, (-e).toNat = k := ⟨_, rfl⟩
    rw [hk] at hs h
    have hk0 : 0 < k := by omega
    have hl := exZ_len k (dD (m * 5 ^ k))
    have hd := exZ_d k (dD_d (m * 5 ^ k) _ (Nat.le_refl _))
    have hn := exZ_nat k (dD (m * 5 ^ k))
    rw [dD_nat _ _ (Nat.le_refl _)] at hn
    generalize exZ k (dD (m * 5 ^ k)) = d at *
    have hF : (d.drop (d.length - k)).length = k := by rw [List.length_drop]; omega
    obtain ⟨a, b, c⟩ := apartO hs (hd.take _) (by intro q; have := congrArg List.length q; rw [List.length_take] at this; simp at this; omega) (.inr ⟨_, rfl, hd.drop _, by intro q; rw [q] at hF; simp at hF; omega⟩)
    refine ⟨a, b, ?_⟩
    rw [c]
    show mv (nat (d.take (d.length - k) ++ d.drop (d.length - k))) (0 - ((d.drop (d.length - k)).length : Int) + 6) = _
    rw [List.take_append_drop, hF, hn, mv_rup]
    apply rupF_ratio (Nat.pow_pos (by omega)) hden
    rw [show (10 : Nat) ^ k = 2 ^ k * 5 ^ k by rw [← Nat.mul_pow]]
    rw [Nat.mul_right_comm (m * 5 ^ k), Nat.mul_right_comm m, h]
    simp only [Nat.mul_assoc, Nat.mul_comm, Nat.mul_left_comm]
end Go.Proofs.YtgjhbolnnnibkaaGreatDoor
