import Derived.Test.YtgjhbolnnnibkaaGreatDoorE9
import Ieee.Arith
set_option linter.unusedVariables false
set_option linter.unusedSimpArgs false
namespace Go.Proofs.YtgjhbolnnnibkaaGreatDoor.Li
open Go.RowKit Lb Nr
theorem two20 : (2 : Nat) ^ 20 = 1048576 := rfl
/-- A rounded quotient lies half a unit away at most. -/
theorem rup_half (x y : Nat) (hy : 0 < y) : 2 * (Nr.rup x y * y) ≤ 2 * x + y ∧ 2 * x ≤ 2 * (Nr.rup x y * y) + y := by
  have e := Nat.div_add_mod x y
  have l := Nat.mod_lt x hy
  rw [Nat.mul_comm] at e
  unfold Nr.rup
  split
  · rename_i h
    rw [Nat.add_mul, Nat.one_mul]
    generalize x / y * y = q at *
    omega
  · rename_i h
    generalize x / y * y = q at *
    omega
/-- What lies nearer than half a unit is rounded to it. -/
theorem rup_near' (x y m : Nat) (hy : 0 < y) (h1 : 2 * x < 2 * (m * y) + y) (h2 : 2 * (m * y) < 2 * x + y) : Nr.rup x y = m := by
  obtain ⟨a, b⟩ := rup_half x y hy
  generalize Nr.rup x y = r at *
  have c1 : r * y < (m + 1) * y := by rw [Nat.add_mul, Nat.one_mul]; omega
  have c2 : m * y < (r + 1) * y := by rw [Nat.add_mul, Nat.one_mul]; omega
  have d1 := Nat.lt_of_mul_lt_mul_right c1
  have d2 := Nat.lt_of_mul_lt_mul_right c2
  omega
/-- There and back, as quotients. -/
theorem back_quot (m P : Nat) (hP : 1000000 < P) : Nr.rup (Nr.rup (m * P) 1000000 * 1000000) P = m := by
  obtain ⟨a, b⟩ := rup_half (m * P) 1000000 (by omega)
  apply rup_near' _ _ _ (by omega)
  · omega
  · omega
theorem small_exp {m : Nat} {E : Int} (h0 : 0 < m) (hm : m ≤ 4503599627370496) (hE : IsE m 1000000 E) : E ≤ -20 ∧ -1074 < E ∧ 4503599627370496 ≤ Nr.rup (sA m E) (sB 1000000 E) := by
  obtain ⟨e1, e2, e3⟩ := hE
  have hlow : ¬ E = -1074 := by
    intro c
    subst c
    unfold fl sA sB at e2
    rw [show ((-1074 : Int)).toNat = 0 from rfl, show (-(-1074 : Int)).toNat = 1074 from rfl, Nat.pow_zero, Nat.mul_one] at e2
    have : 9007199254740992 * 1000000 ≤ m * 2 ^ 1074 := by
      have q : 9007199254740992 * 1000000 ≤ 2 ^ 1074 := by decide +kernel
      exact Nat.le_trans q (Nat.le_mul_of_pos_left _ h0)
    have := (Nat.le_div_iff_mul_le (show 0 < 1000000 by omega)).2 this
    exact absurd e2 (Nat.not_lt.2 this)
  rcases e3 with c | c
  · exact absurd c hlow
  have h20 : E ≤ -20 := by
    apply Classical.byContradiction
    intro g
    have g2 : fl m 1000000 (E - 1) ≤ fl m 1000000 (-20) := by
      have := fl_add (N := m) (D := 1000000) (by omega) (-20) (E - 1 - (-20)).toNat
      rw [show (-20 : Int) + ((E - 1 - (-20)).toNat : Int) = E - 1 by omega] at this
      rw [this]
      exact Nat.div_le_self _ _
    have g3 : fl m 1000000 (-20) < 9007199254740992 := by
      unfold fl sA sB
      rw [show ((-20 : Int)).toNat = 0 from rfl, show (-(-20 : Int)).toNat = 20 from rfl, two20, Nat.pow_zero, Nat.mul_one]
      omega
    omega
  refine ⟨h20, by omega, ?_⟩
  have := fl_add (N := m) (D := 1000000) (by omega) (E - 1) 1
  rw [show E - 1 + ((1 : Nat) : Int) = E by omega] at this
  have r := (rup_le (sA m E) (sB 1000000 E)).1
  unfold fl at this
  unfold fl at c
  omega
/-- The parts of the bits that were put together. -/
theorem parts_wb (M : Nat) (E : Int) (ng : Bool) (h1 : 4503599627370496 ≤ M) (h2 : M ≤ 9007199254740992) (hE : -1074 < E) (hE2 : E ≤ -20) :
    pKind (wb M E + sg ng) = 2 ∧ pNeg (wb M E + sg ng) = ng ∧ wb M E + sg ng < 18446744073709551616 ∧ pE (wb M E + sg ng) < 0 ∧ M * 2 ^ (-(pE (wb M E + sg ng))).toNat = pM (wb M E + sg ng) * 2 ^ (-E).toNat := by
  obtain ⟨K, hK⟩ : ∃ K : Nat, E = -(K : Int) := ⟨(-E).toNat, by omega⟩
  subst hK
  have hwb : wb M (-(K : Int)) = M + (1074 - K) * 4503599627370496 := by
    unfold wb
    rw [if_pos h1, show (-(K : Int) + 1074).toNat = 1074 - K by omega]
    omega
  have hsg : sg ng = if ng then 9223372036854775808 else 0 := rfl
  have hf : pField (wb M (-(K : Int)) + sg ng) = if M = 9007199254740992 then 1076 - K else 1075 - K := by
    unfold pField
    rw [hwb, hsg]
    cases ng
    · simp only [Bool.false_eq_true, if_false]
      split <;> omega
    · simp only [if_true]
      split <;> omega
  have hk : pKept (wb M (-(K : Int)) + sg ng) = if M = 9007199254740992 then 0 else M - 4503599627370496 := by
    unfold pKept
    rw [hwb, hsg]
    cases ng
    · simp only [Bool.false_eq_true, if_false]
      split <;> omega
    · simp only [if_true]
      split <;> omega
  have hn : pNeg (wb M (-(K : Int)) + sg ng) = ng := by
    unfold pNeg
    rw [hwb, hsg]
    cases ng
    · simp only [Bool.false_eq_true, if_false]
      rw [decide_eq_false_iff_not]; omega
    · simp only [if_true]
      rw [decide_eq_true_iff]; omega
  refine ⟨?_, hn, ?_, ?_, ?_⟩
  · unfold pKind
    rw [hf]
    by_cases c : M = 9007199254740992
    · rw [if_pos c, if_neg (by omega), if_pos (by omega)]
    · rw [if_neg c, if_neg (by omega), if_pos (by omega)]
  · rw [hwb, hsg]
    cases ng
    · simp only [Bool.false_eq_true, if_false]; omega
    · simp only [if_true]; omega
  · unfold pE
    rw [hf]
    by_cases c : M = 9007199254740992
    · rw [if_pos c, if_neg (by omega), if_pos (by omega)]; omega
    · rw [if_neg c, if_neg (by omega), if_pos (by omega)]; omega
  · unfold pE pM
    rw [hf, hk]
    by_cases c : M = 9007199254740992
    · rw [if_pos c, if_pos c, if_neg (by omega), if_pos (by omega), if_pos (by omega), c]
      rw [show (-(-1074 + ((1076 - K : Nat) : Int) - 1)).toNat = K - 1 by omega, show (-(-(K : Int))).toNat = (K - 1) + 1 by omega, Nat.pow_succ]
      generalize 2 ^ (K - 1) = Z
      omega
    · rw [if_neg c, if_neg c, if_neg (by omega), if_pos (by omega), if_pos (by omega)]
      rw [show (-(-1074 + ((1075 - K : Nat) : Int) - 1)).toNat = K by omega, show (-(-(K : Int))).toNat = K by omega, show 4503599627370496 + (M - 4503599627370496) = M by omega]
/-- There and back. -/
theorem back_num (v : Int) (x : Nat) (h1 : -4503599627370496 ≤ v) (h2 : v ≤ 4503599627370496) (x1 : v = 0 → x = 0) (x2 : v ≠ 0 → ∀ E, IsE v.natAbs 1000000 E → x = wb (Nr.rup (sA v.natAbs E) (sB 1000000 E)) E + sg (decide (v < 0))) : nV x = v ∧ nE x = 0 ∧ x < 18446744073709551616 := by
  by_cases h : v = 0
  · rw [x1 h, h]
    have a : pKind 0 = 0 := by decide
    have b : pM 0 = 0 := by decide
    have hx : nX 0 = 0 := by unfold nX RN; rw [b]; simp
    have hr : nR 0 = 0 := by
      unfold nR Go.Proofs.YtgjhbolnnnibkaaGreatDoor.rup
      have := nY_pos 0
      rw [hx, Nat.zero_mul, Nat.zero_mod, Nat.zero_div, if_neg (by omega)]
    unfold nV nE
    rw [a, hr]
    decide
  · obtain ⟨E, hE⟩ := exE (N := v.natAbs) (D := 1000000) (by omega) (by omega)
    obtain ⟨s1, s2, s3⟩ := small_exp (by omega) (by omega) hE
    have s4 := (small_E (by omega) hE).1
    rw [x2 h E hE]
    have hM : Nr.rup (sA v.natAbs E) (sB 1000000 E) = Nr.rup (v.natAbs * 2 ^ (-E).toNat) 1000000 := by
      unfold sA sB
      rw [show E.toNat = 0 by omega, Nat.pow_zero, Nat.mul_one]
    have hP : 1000000 < 2 ^ (-E).toNat := by
      have : 2 ^ 20 ≤ 2 ^ (-E).toNat := Nat.pow_le_pow_right (by omega) (by omega)
      rw [two20] at this
      omega
    have hb := back_quot v.natAbs (2 ^ (-E).toNat) hP
    rw [← hM] at hb
    generalize Nr.rup (sA v.natAbs E) (sB 1000000 E) = M at *
    obtain ⟨k1, k2, k3, k4, k5⟩ := parts_wb M E (decide (v < 0)) s3 s4 s2 s1
    generalize wb M E + sg (decide (v < 0)) = X at *
    have hR : nR X = v.natAbs := by
      have q := nXY X
      rw [show (pE X).toNat = 0 by omega, Nat.pow_zero, Nat.mul_one] at q
      have : nR X = Nr.rup (M * 1000000) (2 ^ (-E).toNat) := by
        show Nr.rup (nX X * 1000000) (nY X) = _
        apply Nr.rup_ratio (nY_pos X) (Nat.two_pow_pos _)
        have hz : 0 < 2 ^ (-(pE X)).toNat := Nat.two_pow_pos _
        apply Nat.eq_of_mul_eq_mul_right hz
        generalize 2 ^ (-(pE X)).toNat = Z at *
        generalize 2 ^ (-E).toNat = P at *
        generalize nX X = A at *
        generalize nY X = B at *
        generalize pM X = F at *
        calc A * 1000000 * P * Z = (A * Z) * (1000000 * P) := by grind
          _ = (F * B) * (1000000 * P) := by rw [← q]
          _ = (F * P) * (1000000 * B) := by grind
          _ = (M * Z) * (1000000 * B) := by rw [← k5]
          _ = M * 1000000 * B * Z := by grind
      rw [this]
      exact hb
    unfold nV nE
    rw [k1, hR, k2]
    refine ⟨?_, ?_, k3⟩
    · rw [if_neg (by omega), if_neg (by omega)]
      by_cases c : v < 0
      · rw [decide_eq_true c]
        show (if true = true ∧ v.natAbs ≤ 9223372036854775808 then _ else _) = _
        rw [if_pos ⟨rfl, by omega⟩]
        omega
      · rw [decide_eq_false c]
        show (if false = true ∧ v.natAbs ≤ 9223372036854775808 then _ else if false = false ∧ v.natAbs < 9223372036854775808 then _ else _) = _
        rw [if_neg (by simp), if_pos ⟨rfl, by omega⟩]
        omega
    · rw [if_neg (by omega), if_neg (by omega)]
      by_cases c : v < 0
      · rw [decide_eq_true c]
        show (if true = true ∧ v.natAbs ≤ 9223372036854775808 then _ else _) = _
        rw [if_pos ⟨rfl, by omega⟩]
      · rw [decide_eq_false c]
        show (if false = true ∧ v.natAbs ≤ 9223372036854775808 then _ else if false = false ∧ v.natAbs < 9223372036854775808 then _ else _) = _
        rw [if_neg (by simp), if_pos ⟨rfl, by omega⟩]
end Go.Proofs.YtgjhbolnnnibkaaGreatDoor.Li
namespace Go.Proofs.YtgjhbolnnnibkaaGreatDoor.Fo
/-- How far a rung lies above nought, in units of the least number. -/
def mg (r : Nat) : Nat := (if r < 4503599627370496 then r else 4503599627370496 + r % 4503599627370496) * 2 ^ (r / 4503599627370496 - 1)
theorem mg_step (r : Nat) : mg r < mg (r + 1) := by
  have key : ∀ B : Nat, 0 < B → ∀ r, (if r < B then r else B + r % B) * 2 ^ (r / B - 1) < (if r + 1 < B then r + 1 else B + (r + 1) % B) * 2 ^ ((r + 1) / B - 1) := by
    intro B hB r
    by_cases h1 : r + 1 < B
    · rw [if_pos (by omega), if_pos h1, Nat.div_eq_of_lt (by omega), Nat.div_eq_of_lt h1]; omega
    · by_cases h2 : r + 1 = B
      · rw [if_pos (by omega), if_neg h1, Nat.div_eq_of_lt (by omega), h2, Nat.mod_self, Nat.div_self hB]; simp; omega
      · have h3 : B ≤ r := by omega
        rw [if_neg (by omega), if_neg h1]
        have hq : 1 ≤ r / B := (Nat.le_div_iff_mul_le hB).2 (by omega)
        have hm := Nat.mod_lt r hB
        have e := Nat.div_add_mod r B
        by_cases h4 : r % B + 1 < B
        · have e1 : (r + 1) / B = r / B := by
            rw [Nat.div_eq_iff hB, Nat.mul_comm]; omega
          have e2 : (r + 1) % B = r % B + 1 := by
            rw [Nat.add_mod]
            by_cases hb : B = 1
            · omega
            · rw [Nat.mod_eq_of_lt (a := 1) (by omega), Nat.mod_eq_of_lt h4]
          rw [e1, e2]
          exact Nat.mul_lt_mul_of_pos_right (by omega) (Nat.two_pow_pos _)
        · have e1 : (r + 1) / B = r / B + 1 := by
            rw [Nat.div_eq_iff hB, Nat.mul_comm, Nat.mul_add]; omega
          have e2 : (r + 1) % B = 0 := by
            have : r + 1 = B * (r / B + 1) := by rw [Nat.mul_add]; omega
            rw [this, Nat.mul_mod_right]
          rw [e1, e2, Nat.add_zero, Nat.add_sub_cancel]
          have : 2 ^ (r / B) = 2 * 2 ^ (r / B - 1) := by
            rw [show r / B = (r / B - 1) + 1 by omega, Nat.pow_succ, Nat.add_sub_cancel, Nat.mul_comm]
          rw [this, ← Nat.mul_assoc]
          exact Nat.mul_lt_mul_of_pos_right (by omega) (Nat.two_pow_pos _)
  exact key 4503599627370496 (by omega) r
theorem mg_lt {r s : Nat} (h : r < s) : mg r < mg s := by
  induction s with
  | zero => omega
  | succ s ih =>
    by_cases e : r = s
    · rw [e]; exact mg_step s
    · exact Nat.lt_trans (ih (by omega)) (mg_step s)
theorem mg_zero : mg 0 = 0 := by simp [mg]
theorem mg_pos {r : Nat} (h : 0 < r) : 0 < mg r := by have := mg_lt h; rw [mg_zero] at this; exact this
/-- A word's sign and amount. -/
def negB (x : Nat) : Bool := x / 9223372036854775808 % 2 == 1
def sv (x : Nat) : Int := if negB x then -(mg (x % 9223372036854775808) : Int) else (mg (x % 9223372036854775808) : Int)
/-- The key, counted from nought's. -/
def ky (x : Nat) : Int := if negB x then -((x % 9223372036854775808 : Nat) : Int) else ((x % 9223372036854775808 : Nat) : Int)
theorem sv_lt {x y : Nat} (h : ky x < ky y) : sv x < sv y := by
  unfold ky at h
  unfold sv
  generalize x % 9223372036854775808 = a at h ⊢
  generalize y % 9223372036854775808 = b at h ⊢
  generalize negB x = u at h ⊢
  generalize negB y = v at h ⊢
  have hm : ∀ r s, r < s → (mg r : Int) < mg s := fun r s h => by exact_mod_cast mg_lt h
  have h0 : ∀ r, (0 : Int) ≤ mg r := fun r => by omega
  have hp : ∀ r, 0 < r → (0 : Int) < mg r := fun r h => by exact_mod_cast mg_pos h
  cases u <;> cases v <;> simp only [if_true, if_false, Bool.false_eq_true] at h ⊢
  · exact hm _ _ (by omega)
  · omega
  · by_cases ha : 0 < a
    · have := hp _ ha; have := h0 b; omega
    · have := hp b (by omega); have := h0 a; omega
  · have := hm b a (by omega); omega
theorem sv_eq {x y : Nat} (h : ky x = ky y) : sv x = sv y := by
  unfold ky at h
  unfold sv
  generalize x % 9223372036854775808 = a at h ⊢
  generalize y % 9223372036854775808 = b at h ⊢
  generalize negB x = u at h ⊢
  generalize negB y = v at h ⊢
  have hz : mg 0 = 0 := mg_zero
  cases u <;> cases v <;> simp only [if_true, if_false, Bool.false_eq_true] at h ⊢
  · have : a = b := by omega
    rw [this]
  · obtain ⟨rfl, rfl⟩ : a = 0 ∧ b = 0 := by omega
    omega
  · obtain ⟨rfl, rfl⟩ : a = 0 ∧ b = 0 := by omega
    omega
  · have : a = b := by omega
    rw [this]
theorem cmp_lt {a b : Int} (h : a < b) : compare a b = .lt := by rw [Int.compare_eq_lt]; exact h
theorem cmp_sv (x y : Nat) : compare (sv x) (sv y) = compare (ky x) (ky y) := by
  rcases Int.lt_trichotomy (ky x) (ky y) with h | h | h
  · rw [Int.compare_eq_lt.2 h, Int.compare_eq_lt.2 (sv_lt h)]
  · rw [Int.compare_eq_eq.2 h, Int.compare_eq_eq.2 (sv_eq h)]
  · rw [Int.compare_eq_gt.2 h, Int.compare_eq_gt.2 (sv_lt h)]
@[reducible] def isNaN (x : Nat) : Prop := 9218868437227405312 < x % 9223372036854775808
theorem read_eq (x : Nat) : Ieee.double.read x = if x % 9223372036854775808 < 9218868437227405312 then .number (negB x) (if x % 9223372036854775808 < 4503599627370496 then x % 9223372036854775808 else 4503599627370496 + x % 9223372036854775808 % 4503599627370496) (-1074 + ((x % 9223372036854775808 / 4503599627370496 - 1 : Nat) : Int))
    else if x % 9223372036854775808 = 9218868437227405312 then .infinity (negB x) else .nan (negB x) (x % 9223372036854775808 - 9218868437227405312) := by
  have e1 : Ieee.double.signWeight = 9223372036854775808 := by decide
  have e2 : Ieee.double.binade = 4503599627370496 := by decide
  have e3 : Ieee.double.infRung = 9218868437227405312 := by decide
  have e4 : Ieee.double.leastPlace = -1074 := by decide
  unfold Ieee.Format.read
  simp only [e1, e2, e3, e4]
  change (if _ then Ieee.Datum.number (negB x) _ _ else _) = _
  by_cases h1 : x % 9223372036854775808 < 4503599627370496
  · rw [if_pos h1, if_pos (by omega), if_pos h1, Nat.div_eq_of_lt h1]; rfl
  · rw [if_neg h1]
    by_cases h2 : x % 9223372036854775808 < 9218868437227405312
    · rw [if_pos h2, if_pos h2, if_neg h1]; rfl
    · rw [if_neg h2, if_neg h2]; rfl
theorem cmp_scale (a b : Int) (k : Nat) : compare (a * 2 ^ k) (b * 2 ^ k) = compare a b := by
  have hp : (0 : Int) < 2 ^ k := Int.pow_pos (by omega)
  rcases Int.lt_trichotomy a b with h | h | h
  · rw [Int.compare_eq_lt.2 h, Int.compare_eq_lt.2 (Int.mul_lt_mul_of_pos_right h hp)]
  · rw [Int.compare_eq_eq.2 h, Int.compare_eq_eq.2 (by rw [h])]
  · rw [Int.compare_eq_gt.2 h, Int.compare_eq_gt.2 (Int.mul_lt_mul_of_pos_right h hp)]
theorem order_num (s t : Bool) (m n i j : Nat) (p : Int) : Ieee.Datum.order (.number s m (p + i)) (.number t n (p + j)) =
    some (compare (if s then -((m * 2 ^ i : Nat) : Int) else ((m * 2 ^ i : Nat) : Int)) (if t then -((n * 2 ^ j : Nat) : Int) else ((n * 2 ^ j : Nat) : Int))) := by
  simp only [Ieee.Datum.order, Ieee.signed, Nat.shiftLeft_eq]
  congr 1
  have hb : (min (p + (i : Int)) (p + j)) = p + ((min i j : Nat) : Int) := by omega
  rw [hb, show (p + (i : Int) - (p + ((min i j : Nat) : Int))).toNat = i - min i j by omega, show (p + (j : Int) - (p + ((min i j : Nat) : Int))).toNat = j - min i j by omega]
  rw [← cmp_scale _ _ (min i j)]
  have e : ∀ (u : Bool) (m k b : Nat), b ≤ k → (if u = true then -((m * 2 ^ (k - b) : Nat) : Int) else ((m * 2 ^ (k - b) : Nat) : Int)) * 2 ^ b = (if u = true then -((m * 2 ^ k : Nat) : Int) else ((m * 2 ^ k : Nat) : Int)) := by
    intro u m k b h
    have h2 : m * 2 ^ (k - b) * 2 ^ b = m * 2 ^ k := by rw [Nat.mul_assoc, ← Nat.pow_add, Nat.sub_add_cancel h]
    have h3 : ((m * 2 ^ (k - b) : Nat) : Int) * 2 ^ b = ((m * 2 ^ k : Nat) : Int) := by rw [← h2]; push_cast; rfl
    cases u
    · simp only [Bool.false_eq_true, if_false]; exact h3
    · simp only [if_true]; rw [Int.neg_mul, h3]
  rw [e s m i _ (Nat.min_le_left _ _), e t n j _ (Nat.min_le_right _ _)]
/-- Two numbers that are no NaN compare as their keys do. -/
theorem order_ky (x y : Nat) (hx : ¬ isNaN x) (hy : ¬ isNaN y) : Ieee.double.order x y = some (compare (ky x) (ky y)) := by
  unfold isNaN at hx hy
  unfold Ieee.Format.order
  rw [read_eq, read_eq]
  by_cases h1 : x % 9223372036854775808 < 9218868437227405312
  · rw [if_pos h1]
    by_cases h2 : y % 9223372036854775808 < 9218868437227405312
    · rw [if_pos h2, order_num, ← cmp_sv]; rfl
    · rw [if_neg h2, if_pos (c := y % 9223372036854775808 = 9218868437227405312) (by omega)]
      simp only [Ieee.Datum.order]
      congr 1
      unfold ky
      cases negB x <;> cases negB y <;> simp only [if_true, if_false, Bool.false_eq_true]
      · rw [Int.compare_eq_lt.2]; omega
      · rw [Int.compare_eq_gt.2]; omega
      · rw [Int.compare_eq_lt.2]; omega
      · rw [Int.compare_eq_gt.2]; omega
  · rw [if_neg h1, if_pos (c := x % 9223372036854775808 = 9218868437227405312) (by omega)]
    by_cases h2 : y % 9223372036854775808 < 9218868437227405312
    · rw [if_pos h2]
      simp only [Ieee.Datum.order]
      congr 1
      unfold ky
      cases negB x <;> cases negB y <;> simp only [if_true, if_false, Bool.false_eq_true]
      · rw [Int.compare_eq_gt.2]; omega
      · rw [Int.compare_eq_gt.2]; omega
      · rw [Int.compare_eq_lt.2]; omega
      · rw [Int.compare_eq_lt.2]; omega
    · rw [if_neg h2, if_pos (c := y % 9223372036854775808 = 9218868437227405312) (by omega)]
      simp only [Ieee.Datum.order]
      congr 1
      unfold ky
      cases negB x <;> cases negB y <;> simp only [if_true, if_false, Bool.false_eq_true]
      · rw [Int.compare_eq_eq.2 (by omega)]; rfl
      · rw [Int.compare_eq_gt.2 (by omega)]; rfl
      · rw [Int.compare_eq_lt.2 (by omega)]; rfl
      · rw [Int.compare_eq_eq.2 (by omega)]; rfl
theorem order_nan (x y : Nat) (h : isNaN x ∨ isNaN y) : Ieee.double.order x y = none := by
  unfold isNaN at h
  unfold Ieee.Format.order
  rw [read_eq, read_eq]
  by_cases h1 : 9218868437227405312 < x % 9223372036854775808
  · rw [if_neg (by omega), if_neg (by omega)]; rfl
  · have h2 : 9218868437227405312 < y % 9223372036854775808 := by rcases h with h | h <;> omega
    rw [if_neg (c := y % 9223372036854775808 < 9218868437227405312) (by omega), if_neg (c := y % 9223372036854775808 = 9218868437227405312) (by omega)]
    by_cases h3 : x % 9223372036854775808 < 9218868437227405312
    · rw [if_pos h3]; rfl
    · rw [if_neg h3, if_pos (by omega)]; rfl
end Go.Proofs.YtgjhbolnnnibkaaGreatDoor.Fo
set_option linter.unusedVariables false
set_option linter.unusedSimpArgs false
namespace Go.Proofs.YtgjhbolnnnibkaaGreatDoor.Li
open Go.RowKit Lb Nr
theorem fl_mono {N N' D : Nat} (h : N ≤ N') (e : Int) : fl N D e ≤ fl N' D e := by
  unfold fl sA
  exact Nat.div_le_div_right (Nat.mul_le_mul_right _ h)
theorem isE_mono {N N' D : Nat} (hD : 0 < D) (h : N ≤ N') {e f : Int} (hE : IsE N D e) (hF : IsE N' D f) : e ≤ f := by
  apply Classical.byContradiction
  intro g
  obtain ⟨a1, a2, a3⟩ := hE
  obtain ⟨b1, b2, b3⟩ := hF
  rcases a3 with c | c
  · omega
  · have q := fl_add (N := N') hD f (e - 1 - f).toNat
    rw [show f + ((e - 1 - f).toNat : Int) = e - 1 by omega] at q
    have r := Nat.div_le_self (fl N' D f) (2 ^ (e - 1 - f).toNat)
    rw [← q] at r
    have s := fl_mono (D := D) h (e - 1)
    omega
theorem rup_mono {x x' y : Nat} (hy : 0 < y) (h : x ≤ x') : Nr.rup x y ≤ Nr.rup x' y := by
  have hq := Nat.div_le_div_right (c := y) h
  have a := Nat.div_add_mod x y
  have b := Nat.div_add_mod x' y
  have r1 := rup_le x y
  have r2 := rup_le x' y
  rcases Nat.lt_or_eq_of_le hq with c | c
  · omega
  · rw [c] at a
    have d : x % y ≤ x' % y := by
      generalize y * (x' / y) = z at *
      omega
    unfold Nr.rup
    rw [c]
    split
    · rename_i k
      rw [if_pos (by omega)]
      exact Nat.le_refl _
    · split <;> omega
theorem wb_mono {m m' : Nat} {E E' : Int} (h : m ≤ m') (hE : IsE m 1000000 E) (hE' : IsE m' 1000000 E') : wb (Nr.rup (sA m E) (sB 1000000 E)) E ≤ wb (Nr.rup (sA m' E') (sB 1000000 E')) E' := by
  have hle := isE_mono (by omega) h hE hE'
  obtain ⟨s1, s2⟩ := small_E (by omega) hE
  obtain ⟨t1, t2⟩ := small_E (by omega) hE'
  have b1 := hE.1
  have b2 := hE'.1
  by_cases c : E = E'
  · subst c
    have hm : Nr.rup (sA m E) (sB 1000000 E) ≤ Nr.rup (sA m' E) (sB 1000000 E) := by
      apply rup_mono (sB_pos (by omega) E)
      unfold sA
      exact Nat.mul_le_mul_right _ h
    generalize Nr.rup (sA m E) (sB 1000000 E) = M at *
    generalize Nr.rup (sA m' E) (sB 1000000 E) = M' at *
    unfold wb
    split <;> split <;> omega
  · generalize Nr.rup (sA m E) (sB 1000000 E) = M at *
    generalize Nr.rup (sA m' E') (sB 1000000 E') = M' at *
    have hM' : 4503599627370496 ≤ M' := by
      apply Classical.byContradiction
      intro g
      have := t2 (by omega)
      omega
    unfold wb
    rw [if_pos hM']
    split <;> omega
theorem wb_le (M : Nat) (E : Int) : wb M E ≤ 9218868437227405312 := Nat.min_le_right _ _
/-- What is said of a number's bits. -/
def Fb (v : Int) (x : Nat) : Prop := (v = 0 → x = 0) ∧ (v ≠ 0 → ∀ E, IsE v.natAbs 1000000 E → x = wb (Nr.rup (sA v.natAbs E) (sB 1000000 E)) E + sg (decide (v < 0)))
theorem Fb.mag {v : Int} {x : Nat} (h : Fb v x) : ∃ g, x = g + sg (decide (v < 0)) ∧ g ≤ 9218868437227405312 ∧ (v = 0 → g = 0) ∧ (v ≠ 0 → ∀ E, IsE v.natAbs 1000000 E → g = wb (Nr.rup (sA v.natAbs E) (sB 1000000 E)) E) := by
  by_cases c : v = 0
  · refine ⟨0, ?_, by omega, fun _ => rfl, fun k => absurd c k⟩
    rw [h.1 c, c]; rfl
  · obtain ⟨E, hE⟩ := exE (N := v.natAbs) (D := 1000000) (by omega) (by omega)
    refine ⟨_, h.2 c E hE, wb_le _ _, fun k => absurd k c, ?_⟩
    intro _ E2 hE2
    rw [isE_one (by omega) hE2 hE]
theorem mag_mono {a b : Int} {x y : Nat} (hab : a.natAbs ≤ b.natAbs) (hx : (a = 0 → x = 0) ∧ (a ≠ 0 → ∀ E, IsE a.natAbs 1000000 E → x = wb (Nr.rup (sA a.natAbs E) (sB 1000000 E)) E)) (hy : (b = 0 → y = 0) ∧ (b ≠ 0 → ∀ E, IsE b.natAbs 1000000 E → y = wb (Nr.rup (sA b.natAbs E) (sB 1000000 E)) E)) : x ≤ y := by
  by_cases c : a = 0
  · rw [hx.1 c]; omega
  · have d : b ≠ 0 := by omega
    obtain ⟨E, hE⟩ := exE (N := a.natAbs) (D := 1000000) (by omega) (by omega)
    obtain ⟨E', hE'⟩ := exE (N := b.natAbs) (D := 1000000) (by omega) (by omega)
    rw [hx.2 c E hE, hy.2 d E' hE']
    exact wb_mono hab hE hE'
theorem ky_of (g : Nat) (ng : Bool) (h : g ≤ 9218868437227405312) : Fo.ky (g + sg ng) = (if ng then -(g : Int) else (g : Int)) ∧ ¬ Fo.isNaN (g + sg ng) ∧ g + sg ng < 18446744073709551616 := by
  have hsg : sg ng = if ng then 9223372036854775808 else 0 := rfl
  rw [hsg]
  unfold Fo.ky Fo.negB Fo.isNaN
  cases ng
  · simp only [Bool.false_eq_true, if_false, Nat.add_zero]
    rw [Nat.mod_eq_of_lt (by omega), Nat.div_eq_of_lt (by omega)]
    simp; omega
  · simp only [if_true]
    rw [show (g + 9223372036854775808) % 9223372036854775808 = g by omega, show (g + 9223372036854775808) / 9223372036854775808 % 2 = 1 by omega]
    simp; omega
/-- The greater number has the greater bits, or the same. -/
theorem float_rise {a b : Int} {x y : Nat} (hab : a ≤ b) (hx : Fb a x) (hy : Fb b y) : FloatKind.f64.format.order x y = some .lt ∨ FloatKind.f64.format.order x y = some .eq := by
  obtain ⟨g, rfl, g1, g2, g3⟩ := hx.mag
  obtain ⟨k, rfl, k1, k2, k3⟩ := hy.mag
  obtain ⟨p1, p2, p3⟩ := ky_of g (decide (a < 0)) g1
  obtain ⟨q1, q2, q3⟩ := ky_of k (decide (b < 0)) k1
  have hk : Fo.ky (g + sg (decide (a < 0))) ≤ Fo.ky (k + sg (decide (b < 0))) := by
    rw [p1, q1]
    by_cases c : a < 0
    · rw [decide_eq_true c]
      by_cases d : b < 0
      · rw [decide_eq_true d]
        have := mag_mono (a := b) (b := a) (by omega) ⟨k2, k3⟩ ⟨g2, g3⟩
        simp only [if_true]
        omega
      · rw [decide_eq_false d]
        simp only [if_true, Bool.false_eq_true, if_false]
        omega
    · rw [decide_eq_false c, decide_eq_false (show ¬ b < 0 by omega)]
      have := mag_mono (a := a) (b := b) (by omega) ⟨g2, g3⟩ ⟨k2, k3⟩
      simp only [Bool.false_eq_true, if_false]
      omega
  show Ieee.double.order _ _ = _ ∨ Ieee.double.order _ _ = _
  rw [Fo.order_ky _ _ p2 q2]
  rcases Int.lt_or_eq_of_le hk with c | c
  · left; rw [Int.compare_eq_lt.2 c]
  · right; rw [Int.compare_eq_eq.2 c]
end Go.Proofs.YtgjhbolnnnibkaaGreatDoor.Li
set_option linter.unusedVariables false
set_option linter.unusedSimpArgs false
namespace Go.Proofs.YtgjhbolnnnibkaaGreatDoor.Li
open Go.RowKit Lb Nr
theorem Float_fb (v : Int) (w : World) (h : -9223372036854775808 ≤ v ∧ v ≤ 9223372036854775807) :
    Calls Tryz.prog 10 #[.int .i64 v] w fun e w' => ∃ x : Nat, e = .returned (.float .f64 x) ∧ Fb v x ∧ Keep w w' := by
  refine (Float_any v w h.1 h.2).mono ?_
  rintro e w' ⟨x, rfl, a, b, k⟩
  exact ⟨x, rfl, ⟨a, b⟩, k⟩
set_option maxRecDepth 100000 in
set_option maxHeartbeats 1000000 in
theorem law_rises (a b : Int) (w : World) (ha : -9223372036854775808 ≤ a ∧ a ≤ 9223372036854775807) (hb : -9223372036854775808 ≤ b ∧ b ≤ 9223372036854775807) (hT : Bi.Tab w) (hB : Calls Tryz.prog 16 #[] w fun e w' => e = .returned (.bool true) ∧ Keep w w') :
    Calls Tryz.prog 4 #[.int .i64 a, .int .i64 b] w fun e w' => e = .returned (.bool true) ∧ Keep w w' := by
  have hFa := fun wx => Float_fb a wx ha
  have hFb := fun wx => Float_fb b wx hb
  have hN := fun (x : Nat) wx (hx : x < 18446744073709551616) (hTx : Bi.Tab wx) => Nearest_any x hx wx hTx
  by_cases h : b < a
  · skip
    have hrise : Hid (∀ x y, Fb b x → Fb a y → FloatKind.f64.format.order x y = some .lt ∨ FloatKind.f64.format.order x y = some .eq) := fun x y hx hy => float_rise (by omega) hx hy
    have hback : Hid (-4503599627370496 ≤ b → b ≤ 4503599627370496 → ∀ x, Fb b x → nV x = b ∧ nE x = 0 ∧ x < 18446744073709551616) := fun k1 k2 x hx => back_num b x k1 k2 hx.1 hx.2
    have hcmp : decide (b < a) = true := decide_eq_true h
    go_enter Tryz.func4, Tryz.ntmps4
    go_wp2_with fail
    refine hB.mono ?_
    rintro e w1 ⟨rfl, k1⟩
    go_wp2_with fail
    refine (hFb _).mono ?_
    rintro e w2 ⟨x, rfl, hx, k2⟩
    go_wp2_with fail
    refine (hFa _).mono ?_
    rintro e w3 ⟨y, rfl, hy, k3⟩
    have ho := hrise.out x y hx hy
    replace hx : Hid _ := hx
    replace hy : Hid _ := hy
    by_cases g1 : 4503599627370496 < b
    · have d1 : decide (4503599627370496 < b) = true := decide_eq_true g1
      rcases ho with ho | ho
      all_goals
        go_wp2_with fail
        go_ret
        exact ⟨rfl, (k1.trans k2).trans k3⟩
    by_cases g2 : b < -4503599627370496
    · have d1 : decide (4503599627370496 < b) = false := decide_eq_false g1
      have d2 : decide (b < -4503599627370496) = true := decide_eq_true g2
      rcases ho with ho | ho
      all_goals
        go_wp2_with fail
        go_ret
        exact ⟨rfl, (k1.trans k2).trans k3⟩
    have d1 : decide (4503599627370496 < b) = false := decide_eq_false g1
    have d2 : decide (b < -4503599627370496) = false := decide_eq_false g2
    have hbk := hback.out (by omega) (by omega)
    replace hbk : Hid _ := hbk
    rcases ho with ho | ho
    all_goals
      go_wp2_with fail
      refine (hFb _).mono ?_
      rintro e w4 ⟨z, rfl, hz, k4⟩
      obtain ⟨z1, z2, z3⟩ := hbk.out z hz
      have hN' := fun wx hTx => hN z wx z3 hTx
      rw [z1, z2] at hN'
      clear z1 z2 hz
      go_wp2_with fail
      refine (hN' _ (hT.keep (((k1.trans k2).trans k3).trans k4))).mono ?_
      rintro e w5 ⟨rfl, k5⟩
      go_wp2_with fail
      go_ret
      exact ⟨rfl, (((k1.trans k2).trans k3).trans k4).trans k5⟩
  · skip
    have hrise : Hid (∀ x y, Fb a x → Fb b y → FloatKind.f64.format.order x y = some .lt ∨ FloatKind.f64.format.order x y = some .eq) := fun x y hx hy => float_rise (by omega) hx hy
    have hback : Hid (-4503599627370496 ≤ a → a ≤ 4503599627370496 → ∀ x, Fb a x → nV x = a ∧ nE x = 0 ∧ x < 18446744073709551616) := fun k1 k2 x hx => back_num a x k1 k2 hx.1 hx.2
    have hcmp : decide (b < a) = false := decide_eq_false h
    go_enter Tryz.func4, Tryz.ntmps4
    go_wp2_with fail
    refine hB.mono ?_
    rintro e w1 ⟨rfl, k1⟩
    go_wp2_with fail
    refine (hFa _).mono ?_
    rintro e w2 ⟨x, rfl, hx, k2⟩
    go_wp2_with fail
    refine (hFb _).mono ?_
    rintro e w3 ⟨y, rfl, hy, k3⟩
    have ho := hrise.out x y hx hy
    replace hx : Hid _ := hx
    replace hy : Hid _ := hy
    by_cases g1 : 4503599627370496 < a
    · have d1 : decide (4503599627370496 < a) = true := decide_eq_true g1
      rcases ho with ho | ho
      all_goals
        go_wp2_with fail
        go_ret
        exact ⟨rfl, (k1.trans k2).trans k3⟩
    by_cases g2 : a < -4503599627370496
    · have d1 : decide (4503599627370496 < a) = false := decide_eq_false g1
      have d2 : decide (a < -4503599627370496) = true := decide_eq_true g2
      rcases ho with ho | ho
      all_goals
        go_wp2_with fail
        go_ret
        exact ⟨rfl, (k1.trans k2).trans k3⟩
    have d1 : decide (4503599627370496 < a) = false := decide_eq_false g1
    have d2 : decide (a < -4503599627370496) = false := decide_eq_false g2
    have hbk := hback.out (by omega) (by omega)
    replace hbk : Hid _ := hbk
    rcases ho with ho | ho
    all_goals
      go_wp2_with fail
      refine (hFa _).mono ?_
      rintro e w4 ⟨z, rfl, hz, k4⟩
      obtain ⟨z1, z2, z3⟩ := hbk.out z hz
      have hN' := fun wx hTx => hN z wx z3 hTx
      rw [z1, z2] at hN'
      clear z1 z2 hz
      go_wp2_with fail
      refine (hN' _ (hT.keep (((k1.trans k2).trans k3).trans k4))).mono ?_
      rintro e w5 ⟨rfl, k5⟩
      go_wp2_with fail
      go_ret
      exact ⟨rfl, (((k1.trans k2).trans k3).trans k4).trans k5⟩
end Go.Proofs.YtgjhbolnnnibkaaGreatDoor.Li
