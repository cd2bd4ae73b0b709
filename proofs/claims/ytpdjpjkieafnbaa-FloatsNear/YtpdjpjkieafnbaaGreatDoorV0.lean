import Ieee.Arith
import Derived.Test.YtpdjpjkieafnbaaGreatDoorRM1
import Derived.Test.YtpdjpjkieafnbaaGreatDoorNC10
namespace Go.Proofs.YtpdjpjkieafnbaaGreatDoor.Fo
/-- How far a rung lies above nought, in units of the least number. -/
def mg (r : Nat) : Nat := (if r < 4503599627370496 then r else 4503599627370496 + r % 4503599627370496) * 2 ^ (r / 4503599627370496 - 1)
theorem mg_step (r : Nat) : mg r < mg (r + 1) := by
  have key : ∀ B : Nat, 0 < B → ∀ r, (if r < B then r else B + r % B) * 2 ^ (r / B - 1) < (if r + 1 < B then r + 1 else B + (r + 1) % B) * 2 ^ ((r + 1) / B - 1) := by
    intro B hB r
    by_cases h1 : r + 1 < B
    · rw [if_pos (by omega), if_pos h1, Nat.div_eq_of_lt (by omega), Nat.div_eq_of_lt h1]; omega
    · by_cases h2 : r + 1 = B
      · rw [if_pos (by omega), if_neg h1, Nat.div_eq_of_lt (by omega), h2, Nat.mod_self, Nat.div_self hB]; simp; omega
      · have h3 : B ≤ r := by omega
        rw [if_neg (by omega), if_neg h1]
        have hq : 1 ≤ r / B := (Nat.le_div_iff_mul_le hB).2 (by omega)
        have hm := Nat.mod_lt r hB
        have e := Nat.div_add_mod r B
        by_cases h4 : r % B + 1 < B
        · have e1 : (r + 1) / B = r / B := by
            rw [Nat.div_eq_iff hB, Nat.mul_comm]; omega
          have e2 : (r + 1) % B = r % B + 1 := by
            rw [Nat.add_mod]
            by_cases hb : B = 1
            · omega
            · rw [Nat.mod_eq_of_lt (a := 1) (by omega), Nat.mod_eq_of_lt h4]
          rw [e1, e2]
          exact Nat.mul_lt_mul_of_pos_right (by omega) (Nat.two_pow_pos _)
        · have e1 : (r + 1) / B = r / B + 1 := by
            rw [Nat.div_eq_iff hB, Nat.mul_comm, Nat.mul_add]; omega
          have e2 : (r + 1) % B = 0 := by
            have : r + 1 = B * (r / B + 1) := by rw [Nat.mul_add]; omega
            rw [this, Nat.mul_mod_right]
          rw [e1, e2, Nat.add_zero, Nat.add_sub_cancel]
          have : 2 ^ (r / B) = 2 * 2 ^ (r / B - 1) := by
            rw [show r / B = (r / B - 1) + 1 by omega, Nat.pow_succ, Nat.add_sub_cancel, Nat.mul_comm]
          rw [this, ← Nat.mul_assoc]
          exact Nat.mul_lt_mul_of_pos_right (by omega) (Nat.two_pow_pos _)
  exact key 4503599627370496 (by omega) r
theorem mg_lt {r s : Nat} (h : r < s) : mg r < mg s := by
  induction s with
  | zero => omega
  | succ s ih =>
    by_cases e : r = s
    · rw [e]; exact mg_step s
    · exact Nat.lt_trans (ih (by omega)) (mg_step s)
theorem mg_zero : mg 0 = 0 := by simp [mg]
theorem mg_pos {r : Nat} (h : 0 < r) : 0 < mg r := by have := mg_lt h; rw [mg_zero] at this; exact this
/-- A word's sign and amount. -/
def negB (x : Nat) : Bool := x / 9223372036854775808 % 2 == 1
def sv (x : Nat) : Int := if negB x then -(mg (x % 9223372036854775808) : Int) else (mg (x % 9223372036854775808) : Int)
/-- The key, counted from nought's. -/
def ky (x : Nat) : Int := if negB x then -((x % 9223372036854775808 : Nat) : Int) else ((x % 9223372036854775808 : Nat) : Int)
theorem sv_lt {x y : Nat} (h : ky x < ky y) : sv x < sv y := by
  unfold ky at h
  unfold sv
  generalize x % 9223372036854775808 = a at h ⊢
  generalize y % 9223372036854775808 = b at h ⊢
  generalize negB x = u at h ⊢
  generalize negB y = v at h ⊢
  have hm : ∀ r s, r < s → (mg r : Int) < mg s := fun r s h => by exact_mod_cast mg_lt h
  have h0 : ∀ r, (0 : Int) ≤ mg r := fun r => by omega
  have hp : ∀ r, 0 < r → (0 : Int) < mg r := fun r h => by exact_mod_cast mg_pos h
  cases u <;> cases v <;> simp only [if_true, if_false, Bool.false_eq_true] at h ⊢
  · exact hm _ _ (by omega)
  · omega
  · by_cases ha : 0 < a
    · have := hp _ ha; have := h0 b; omega
    · have := hp b (by omega); have := h0 a; omega
  · have := hm b a (by omega); omega
theorem sv_eq {x y : Nat} (h : ky x = ky y) : sv x = sv y := by
  unfold ky at h
  unfold sv
  generalize x % 9223372036854775808 = a at h ⊢
  generalize y % 9223372036854775808 = b at h ⊢
  generalize negB x = u at h ⊢
  generalize negB y = v at h ⊢
  have hz : mg 0 = 0 := mg_zero
  cases u <;> cases v <;> simp only [if_true, if_false, Bool.false_eq_true] at h ⊢
  · have : a = b := by omega
    rw [this]
  · obtain ⟨rfl, rfl⟩ : a = 0 ∧ b = 0 := by omega
    omega
  · obtain ⟨rfl, rfl⟩ : a = 0 ∧ b = 0 := by omega
    omega
  · have : a = b := by omega
    rw [this]
theorem cmp_lt {a b : Int} (h : a < b) : compare a b = .lt := by rw [Int.compare_eq_lt]; exact h
theorem cmp_sv (x y : Nat) : compare (sv x) (sv y) = compare (ky x) (ky y) := by
  rcases Int.lt_trichotomy (ky x) (ky y) with h | h | h
  · rw [Int.compare_eq_lt.2 h, Int.compare_eq_lt.2 (sv_lt h)]
  · rw [Int.compare_eq_eq.2 h, Int.compare_eq_eq.2 (sv_eq h)]
  · rw [Int.compare_eq_gt.2 h, Int.compare_eq_gt.2 (sv_lt h)]
@[reducible] def isNaN (x : Nat) : Prop := 9218868437227405312 < x % 9223372036854775808
theorem read_eq (x : Nat) : Ieee.double.read x = if x % 9223372036854775808 < 9218868437227405312 then .number (negB x) (if x % 9223372036854775808 < 4503599627370496 then x % 9223372036854775808 else 4503599627370496 + x % 9223372036854775808 % 4503599627370496) (-1074 + ((x % 9223372036854775808 / 4503599627370496 - 1 : Nat) : Int))
    else if x % 9223372036854775808 = 9218868437227405312 then .infinity (negB x) else .nan (negB x) (x % 9223372036854775808 - 9218868437227405312) := by
  have e1 : Ieee.double.signWeight = 9223372036854775808 := by decide
  have e2 : Ieee.double.binade = 4503599627370496 := by decide
  have e3 : Ieee.double.infRung = 9218868437227405312 := by decide
  have e4 : Ieee.double.leastPlace = -1074 := by decide
  unfold Ieee.Format.read
  simp only [e1, e2, e3, e4]
  change (if _ then Ieee.Datum.number (negB x) _ _ else _) = _
  by_cases h1 : x % 9223372036854775808 < 4503599627370496
  · rw [if_pos h1, if_pos (by omega), if_pos h1, Nat.div_eq_of_lt h1]; rfl
  · rw [if_neg h1]
    by_cases h2 : x % 9223372036854775808 < 9218868437227405312
    · rw [if_pos h2, if_pos h2, if_neg h1]; rfl
    · rw [if_neg h2, if_neg h2]; rfl
theorem cmp_scale (a b : Int) (k : Nat) : compare (a * 2 ^ k) (b * 2 ^ k) = compare a b := by
  have hp : (0 : Int) < 2 ^ k := Int.pow_pos (by omega)
  rcases Int.lt_trichotomy a b with h | h | h
  · rw [Int.compare_eq_lt.2 h, Int.compare_eq_lt.2 (Int.mul_lt_mul_of_pos_right h hp)]
  · rw [Int.compare_eq_eq.2 h, Int.compare_eq_eq.2 (by rw [h])]
  · rw [Int.compare_eq_gt.2 h, Int.compare_eq_gt.2 (Int.mul_lt_mul_of_pos_right h hp)]
theorem order_num (s t : Bool) (m n i j : Nat) (p : Int) : Ieee.Datum.order (.number s m (p + i)) (.number t n (p + j)) =
    some (compare (if s then -((m * 2 ^ i : Nat) : Int) else ((m * 2 ^ i : Nat) : Int)) (if t then -((n * 2 ^ j : Nat) : Int) else ((n * 2 ^ j : Nat) : Int))) := by
  simp only [Ieee.Datum.order, Ieee.signed, Nat.shiftLeft_eq]
  congr 1
  have hb : (min (p + (i : Int)) (p + j)) = p + ((min i j : Nat) : Int) := by omega
  rw [hb, show (p + (i : Int) - (p + ((min i j : Nat) : Int))).toNat = i - min i j by omega, show (p + (j : Int) - (p + ((min i j : Nat) : Int))).toNat = j - min i j by omega]
  rw [← cmp_scale _ _ (min i j)]
  have e : ∀ (u : Bool) (m k b : Nat), b ≤ k → (if u = true then -((m * 2 ^ (k - b) : Nat) : Int) else ((m * 2 ^ (k - b) : Nat) : Int)) * 2 ^ b = (if u = true then -((m * 2 ^ k : Nat) : Int) else ((m * 2 ^ k : Nat) : Int)) := by
    intro u m k b h
    have h2 : m * 2 ^ (k - b) * 2 ^ b = m * 2 ^ k := by rw [Nat.mul_assoc, ← Nat.pow_add, Nat.sub_add_cancel h]
    have h3 : ((m * 2 ^ (k - b) : Nat) : Int) * 2 ^ b = ((m * 2 ^ k : Nat) : Int) := by rw [← h2]; push_cast; rfl
    cases u
    · simp only [Bool.false_eq_true, if_false]; exact h3
    · simp only [if_true]; rw [Int.neg_mul, h3]
  rw [e s m i _ (Nat.min_le_left _ _), e t n j _ (Nat.min_le_right _ _)]
/-- Two numbers that are no NaN compare as their keys do. -/
theorem order_ky (x y : Nat) (hx : ¬ isNaN x) (hy : ¬ isNaN y) : Ieee.double.order x y = some (compare (ky x) (ky y)) := by
  unfold isNaN at hx hy
  unfold Ieee.Format.order
  rw [read_eq, read_eq]
  by_cases h1 : x % 9223372036854775808 < 9218868437227405312
  · rw [if_pos h1]
    by_cases h2 : y % 9223372036854775808 < 9218868437227405312
    · rw [if_pos h2, order_num, ← cmp_sv]; rfl
    · rw [if_neg h2, if_pos (c := y % 9223372036854775808 = 9218868437227405312) (by omega)]
      simp only [Ieee.Datum.order]
      congr 1
      unfold ky
      cases negB x <;> cases negB y <;> simp only [if_true, if_false, Bool.false_eq_true]
      · rw [Int.compare_eq_lt.2]; omega
      · rw [Int.compare_eq_gt.2]; omega
      · rw [Int.compare_eq_lt.2]; omega
      · rw [Int.compare_eq_gt.2]; omega
  · rw [if_neg h1, if_pos (c := x % 9223372036854775808 = 9218868437227405312) (by omega)]
    by_cases h2 : y % 9223372036854775808 < 9218868437227405312
    · rw [if_pos h2]
      simp only [Ieee.Datum.order]
      congr 1
      unfold ky
      cases negB x <;> cases negB y <;> simp only [if_true, if_false, Bool.false_eq_true]
      · rw [Int.compare_eq_gt.2]; omega
      · rw [Int.compare_eq_gt.2]; omega
      · rw [Int.compare_eq_lt.2]; omega
      · rw [Int.compare_eq_lt.2]; omega
    · rw [if_neg h2, if_pos (c := y % 9223372036854775808 = 9218868437227405312) (by omega)]
      simp only [Ieee.Datum.order]
      congr 1
      unfold ky
      cases negB x <;> cases negB y <;> simp only [if_true, if_false, Bool.false_eq_true]
      · rw [Int.compare_eq_eq.2 (by omega)]; rfl
      · rw [Int.compare_eq_gt.2 (by omega)]; rfl
      · rw [Int.compare_eq_lt.2 (by omega)]; rfl
      · rw [Int.compare_eq_eq.2 (by omega)]; rfl
theorem order_nan (x y : Nat) (h : isNaN x ∨ isNaN y) : Ieee.double.order x y = none := by
  unfold isNaN at h
  unfold Ieee.Format.order
  rw [read_eq, read_eq]
  by_cases h1 : 9218868437227405312 < x % 9223372036854775808
  · rw [if_neg (by omega), if_neg (by omega)]; rfl
  · have h2 : 9218868437227405312 < y % 9223372036854775808 := by rcases h with h | h <;> omega
    rw [if_neg (c := y % 9223372036854775808 < 9218868437227405312) (by omega), if_neg (c := y % 9223372036854775808 = 9218868437227405312) (by omega)]
    by_cases h3 : x % 9223372036854775808 < 9218868437227405312
    · rw [if_pos h3]; rfl
    · rw [if_neg h3, if_pos (by omega)]; rfl
end Go.Proofs.YtpdjpjkieafnbaaGreatDoor.Fo
set_option linter.unusedVariables false
set_option linter.unusedSimpArgs false
namespace Go.Proofs.YtpdjpjkieafnbaaGreatDoor.Li
open Nr
/-- So many of the least numbers are one. -/
def Z74 : Nat := 2 ^ 200 * 2 ^ 200 * 2 ^ 200 * 2 ^ 200 * 2 ^ 200 * 2 ^ 74
theorem z_key (a b k : Nat) (h : k = 5 * a + b) : 2 ^ k = 2 ^ a * 2 ^ a * 2 ^ a * 2 ^ a * 2 ^ a * 2 ^ b := by
  rw [h, show 5 * a + b = a + a + a + a + a + b by omega]
  simp only [Nat.pow_add]
theorem z_of {k : Nat} (h : k = 1074) : 2 ^ k = Z74 := z_key 200 74 k (by omega)
theorem z_pos : 0 < Z74 := by
  obtain ⟨b, hb⟩ : ∃ b, b = 1074 := ⟨_, rfl⟩
  rw [← z_of hb]
  exact Nat.two_pow_pos _
/-- A rounded quotient lies half a unit away at most; as far only where it is even. -/
theorem rup_half (x y : Nat) (hy : 0 < y) : 2 * (Nr.rup x y * y) ≤ 2 * x + y ∧ 2 * x ≤ 2 * (Nr.rup x y * y) + y ∧ (2 * (Nr.rup x y * y) = 2 * x + y ∨ 2 * x = 2 * (Nr.rup x y * y) + y → Nr.rup x y % 2 = 0) := by
  have e := Nat.div_add_mod x y
  have l := Nat.mod_lt x hy
  rw [Nat.mul_comm] at e
  unfold Nr.rup
  split
  · rename_i h
    rw [Nat.add_mul, Nat.one_mul]
    generalize x / y * y = q at *
    omega
  · rename_i h
    generalize x / y * y = q at *
    omega
theorem wb_fin {M : Nat} {E : Int} (h : wb M E < 9218868437227405312) : wb M E = if 4503599627370496 ≤ M then M + (E + 1074).toNat * 4503599627370496 else M := by
  unfold wb at *
  omega
/-- The worth of bits that were put together, in units of the least number. -/
theorem mg_of (M K : Nat) (h2 : M ≤ 9007199254740992) (hs : M < 4503599627370496 → K = 0) : Fo.mg (if 4503599627370496 ≤ M then M + K * 4503599627370496 else M) = M * 2 ^ K := by
  by_cases c : 4503599627370496 ≤ M
  · rw [if_pos c]
    unfold Fo.mg
    rw [if_neg (by omega)]
    by_cases d : M = 9007199254740992
    · subst d
      rw [show (9007199254740992 + K * 4503599627370496) % 4503599627370496 = 0 by omega, show (9007199254740992 + K * 4503599627370496) / 4503599627370496 - 1 = K + 1 by omega, Nat.pow_succ]
      generalize 2 ^ K = Z
      omega
    · rw [show (M + K * 4503599627370496) % 4503599627370496 = M - 4503599627370496 by omega, show (M + K * 4503599627370496) / 4503599627370496 - 1 = K by omega, show 4503599627370496 + (M - 4503599627370496) = M by omega]
  · have hk : K = 0 := hs (by omega)
    subst hk
    rw [if_neg c]
    unfold Fo.mg
    rw [if_pos (by omega), Nat.div_eq_of_lt (by omega)]
/-- How far two numbers lie from each other. -/
def dN (a b : Nat) : Nat := (a - b) + (b - a)
/-- What is asked of a quotient's rounding: a mantissa, a unit, and how the worths of the neighbours lie. -/
theorem near_core {N D : Nat} (hN : 0 < N) (hD : 0 < D) {E : Int} (hE : IsE N D E) {x : Nat} (hx : x = wb (Nr.rup (sA N E) (sB D E)) E) (hi : x < 9218868437227405312) :
    ∃ S : Nat, 0 < S ∧ 2 * (Fo.mg x * D) ≤ 2 * (N * Z74) + S ∧ 2 * (N * Z74) ≤ 2 * (Fo.mg x * D) + S ∧ (2 * (Fo.mg x * D) = 2 * (N * Z74) + S ∨ 2 * (N * Z74) = 2 * (Fo.mg x * D) + S → x % 2 = 0) ∧
      Fo.mg x * D + S ≤ Fo.mg (x + 1) * D ∧ (0 < x → Fo.mg (x - 1) * D + S ≤ Fo.mg x * D ∨ Fo.mg (x - 1) * D < Fo.mg x * D ∧ Fo.mg x * D ≤ N * Z74) := by
  obtain ⟨h1, h2, h3⟩ := rup_half (sA N E) (sB D E) (sB_pos hD E)
  obtain ⟨s1, s2⟩ := small_E hD hE
  have hY := sB_pos hD E
  have hge : E = -1074 ∨ 4503599627370496 * sB D E ≤ sA N E := by
    rcases hE.2.2 with c | c
    · exact .inl c
    · have q := fl_add hD (E - 1) 1 (N := N)
      rw [show E - 1 + ((1 : Nat) : Int) = E by omega] at q
      have q2 : 4503599627370496 ≤ fl N D E := by omega
      unfold fl at q2
      exact .inr ((Nat.le_div_iff_mul_le hY).1 q2)
  obtain ⟨K, hK⟩ : ∃ K : Nat, E = (K : Int) - 1074 := ⟨(E + 1074).toNat, by have := hE.1; omega⟩
  have hS : N * Z74 * sB D E = sA N E * (D * 2 ^ K) := by
    unfold sA sB
    obtain ⟨b, hb⟩ : ∃ b, b = 1074 := ⟨_, rfl⟩
    rw [← z_of hb]
    have e : (2 : Nat) ^ b * 2 ^ E.toNat = 2 ^ (-E).toNat * 2 ^ K := by
      rw [← Nat.pow_add, ← Nat.pow_add]
      congr 1
      omega
    generalize (2 : Nat) ^ b = p1 at *
    generalize (2 : Nat) ^ E.toNat = p2 at *
    generalize (2 : Nat) ^ (-E).toNat = p3 at *
    generalize (2 : Nat) ^ K = p4 at *
    rw [show N * p1 * (D * p2) = N * D * (p1 * p2) by simp only [Nat.mul_assoc, Nat.mul_left_comm, Nat.mul_comm], e]
    simp only [Nat.mul_assoc, Nat.mul_left_comm, Nat.mul_comm]
  have hKE : (E + 1074).toNat = K := by omega
  rw [hx] at hi
  have hw := wb_fin hi
  rw [← hx, hKE] at hw
  clear hx hi
  generalize Nr.rup (sA N E) (sB D E) = M at *
  generalize sA N E = X at *
  generalize sB D E = Y at *
  generalize N * Z74 = R at *
  have hKz : M < 4503599627370496 → K = 0 := fun c => by have := s2 c; omega
  have hEK : E = -1074 ↔ K = 0 := by omega
  have hm : Fo.mg x = M * 2 ^ K := by rw [hw]; exact mg_of M K s1 hKz
  have hm1 : (M + 1) * 2 ^ K ≤ Fo.mg (x + 1) := by
    by_cases c : M = 9007199254740992
    · have := Fo.mg_lt (Nat.lt_succ_self x)
      have e : x + 1 = 4503599627370497 + (K + 1) * 4503599627370496 := by rw [hw, c, if_pos (by omega)]; omega
      have q := mg_of 4503599627370497 (K + 1) (by omega) (by omega)
      rw [if_pos (by omega), ← e, Nat.pow_succ] at q
      rw [q, c]
      generalize 2 ^ K = Z
      omega
    · have q := mg_of (M + 1) K (by omega) (fun g => hKz (by omega))
      have e : (if 4503599627370496 ≤ M + 1 then M + 1 + K * 4503599627370496 else M + 1) = x + 1 := by
        rw [hw]
        by_cases g : 4503599627370496 ≤ M
        · rw [if_pos g, if_pos (by omega)]; omega
        · rw [if_neg g]
          have := hKz (by omega)
          subst this
          split <;> omega
      rw [e] at q
      exact Nat.le_of_eq q.symm
  have hm2 : 0 < x → Fo.mg (x - 1) + 2 ^ K = Fo.mg x ∨ (K ≠ 0 ∧ M = 4503599627370496) := by
    intro h0
    by_cases c : M = 4503599627370496 ∧ K ≠ 0
    · exact .inr ⟨c.2, c.1⟩
    · left
      have hM0 : 0 < M := by
        rcases Nat.eq_zero_or_pos M with g | g
        · rw [hw, g] at h0; simp at h0
        · exact g
      have q := mg_of (M - 1) K (by omega) (fun g => by
        by_cases t : M < 4503599627370496
        · exact hKz t
        · apply Classical.byContradiction
          intro u
          exact c ⟨by omega, u⟩)
      have e : (if 4503599627370496 ≤ M - 1 then M - 1 + K * 4503599627370496 else M - 1) = x - 1 := by
        rw [hw]
        by_cases g : 4503599627370496 ≤ M
        · rw [if_pos g]
          by_cases t : 4503599627370496 ≤ M - 1
          · rw [if_pos t]; omega
          · rw [if_neg t]
            have : K = 0 := Classical.byContradiction (fun u => c ⟨by omega, u⟩)
            subst this
            omega
        · rw [if_neg g, if_neg (by omega)]
      rw [e] at q
      rw [q, hm, ← Nat.succ_mul]
      congr 1
      omega
  have hpar : x % 2 = M % 2 := by
    rw [hw]
    split <;> omega
  refine ⟨D * 2 ^ K, Nat.mul_pos hD (Nat.two_pow_pos _), ?_, ?_, ?_, ?_, ?_⟩
  · rw [hm]
    have q : (2 * (M * 2 ^ K * D)) * Y ≤ (2 * R + D * 2 ^ K) * Y := by
      have r := Nat.mul_le_mul_right (D * 2 ^ K) h1
      generalize 2 ^ K = p at *
      calc (2 * (M * p * D)) * Y = 2 * (M * Y) * (D * p) := by simp only [Nat.mul_assoc, Nat.mul_left_comm, Nat.mul_comm]
        _ ≤ (2 * X + Y) * (D * p) := r
        _ = 2 * (X * (D * p)) + Y * (D * p) := by rw [Nat.add_mul, Nat.mul_assoc]
        _ = 2 * (R * Y) + Y * (D * p) := by rw [hS]
        _ = (2 * R + D * p) * Y := by rw [Nat.add_mul, Nat.mul_assoc, Nat.mul_comm Y]
    exact Nat.le_of_mul_le_mul_right q hY
  · rw [hm]
    have q : (2 * R) * Y ≤ (2 * (M * 2 ^ K * D) + D * 2 ^ K) * Y := by
      have r := Nat.mul_le_mul_right (D * 2 ^ K) h2
      generalize 2 ^ K = p at *
      calc (2 * R) * Y = 2 * X * (D * p) := by rw [Nat.mul_assoc, hS, Nat.mul_assoc]
        _ ≤ (2 * (M * Y) + Y) * (D * p) := r
        _ = (2 * (M * p * D) + D * p) * Y := by rw [Nat.add_mul, Nat.add_mul, Nat.mul_comm Y (D * p)]; congr 1; simp only [Nat.mul_assoc, Nat.mul_left_comm, Nat.mul_comm]
    exact Nat.le_of_mul_le_mul_right q hY
  · intro h
    rw [hpar]
    apply h3
    rw [hm] at h
    have hP : 0 < D * 2 ^ K := Nat.mul_pos hD (Nat.two_pow_pos _)
    generalize 2 ^ K = p at *
    rcases h with h | h
    · left
      apply Nat.eq_of_mul_eq_mul_right hP
      calc 2 * (M * Y) * (D * p) = (2 * (M * p * D)) * Y := by simp only [Nat.mul_assoc, Nat.mul_left_comm, Nat.mul_comm]
        _ = (2 * R + D * p) * Y := by rw [h]
        _ = 2 * (R * Y) + Y * (D * p) := by rw [Nat.add_mul, Nat.mul_assoc, Nat.mul_comm Y]
        _ = 2 * (X * (D * p)) + Y * (D * p) := by rw [hS]
        _ = (2 * X + Y) * (D * p) := by rw [Nat.add_mul, Nat.mul_assoc]
    · right
      apply Nat.eq_of_mul_eq_mul_right hP
      calc 2 * X * (D * p) = 2 * R * Y := by rw [Nat.mul_assoc, ← hS, Nat.mul_assoc]
        _ = (2 * (M * p * D) + D * p) * Y := by rw [h]
        _ = (2 * (M * Y) + Y) * (D * p) := by rw [Nat.add_mul, Nat.add_mul, Nat.mul_comm Y (D * p)]; congr 1; simp only [Nat.mul_assoc, Nat.mul_left_comm, Nat.mul_comm]
  · rw [hm]
    have := Nat.mul_le_mul_right D hm1
    rw [Nat.add_mul, Nat.one_mul, Nat.add_mul, Nat.mul_comm (2 ^ K) D] at this
    exact this
  · intro h0
    rcases hm2 h0 with g | ⟨g1, g2⟩
    · left
      rw [← g, Nat.add_mul, Nat.mul_comm (2 ^ K) D]
      exact Nat.le_refl _
    · right
      refine ⟨Nat.mul_lt_mul_of_pos_right (Fo.mg_lt (by omega)) hD, ?_⟩
      rcases hge with c | c
      · omega
      · rw [hm, g2]
        have r := Nat.mul_le_mul_right (D * 2 ^ K) c
        rw [← hS] at r
        have r2 : 4503599627370496 * 2 ^ K * D * Y ≤ R * Y := by
          refine Nat.le_trans (Nat.le_of_eq ?_) r
          simp only [Nat.mul_assoc, Nat.mul_left_comm, Nat.mul_comm]
        exact Nat.le_of_mul_le_mul_right r2 hY
/-- The number above is not nearer; as near only where the nearest is even. -/
theorem near_up {N D x : Nat} (hD : 0 < D) (h : NB N D x) (hi : x < 9218868437227405312) : dN (N * Z74) (Fo.mg x * D) ≤ dN (N * Z74) (Fo.mg (x + 1) * D) ∧ (dN (N * Z74) (Fo.mg x * D) = dN (N * Z74) (Fo.mg (x + 1) * D) → x % 2 = 0) := by
  rcases Nat.eq_zero_or_pos N with h0 | h0
  · have hx := h.1 h0
    subst hx
    subst h0
    rw [Fo.mg_zero, Nat.zero_mul, Nat.zero_mul]
    have := Nat.mul_pos (Fo.mg_pos (r := 0 + 1) (by omega)) hD
    unfold dN
    omega
  · obtain ⟨E, hE⟩ := exE h0 hD
    obtain ⟨S, p, a, b, c, d, e⟩ := near_core h0 hD hE (h.2 h0 E hE) hi
    unfold dN
    generalize N * Z74 = R at *
    generalize Fo.mg x * D = u at *
    generalize Fo.mg (x + 1) * D = t at *
    omega
theorem near_down {N D x : Nat} (hD : 0 < D) (h : NB N D x) (hi : x < 9218868437227405312) (hx : 0 < x) : dN (N * Z74) (Fo.mg x * D) ≤ dN (N * Z74) (Fo.mg (x - 1) * D) ∧ (dN (N * Z74) (Fo.mg x * D) = dN (N * Z74) (Fo.mg (x - 1) * D) → x % 2 = 0) := by
  rcases Nat.eq_zero_or_pos N with h0 | h0
  · have := h.1 h0
    omega
  · obtain ⟨E, hE⟩ := exE h0 hD
    obtain ⟨S, p, a, b, c, d, e⟩ := near_core h0 hD hE (h.2 h0 E hE) hi
    have e := e hx
    unfold dN
    generalize N * Z74 = R at *
    generalize Fo.mg x * D = u at *
    generalize Fo.mg (x - 1) * D = t at *
    omega
end Go.Proofs.YtpdjpjkieafnbaaGreatDoor.Li
