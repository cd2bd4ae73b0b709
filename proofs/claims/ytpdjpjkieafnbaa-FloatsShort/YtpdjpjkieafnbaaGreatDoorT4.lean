import Derived.Test.YtpdjpjkieafnbaaGreatDoorT1
import Ieee.Arith
import Derived.Test.YtpdjpjkieafnbaaGreatDoorSM5
import Derived.Test.YtpdjpjkieafnbaaGreatDoorT3
import Derived.Test.YtpdjpjkieafnbaaGreatDoorR14
set_option linter.unusedVariables false
set_option linter.unusedSimpArgs false
namespace Go.Proofs.YtpdjpjkieafnbaaGreatDoor.Li
open Go.RowKit Lb Nr
theorem NB.one {N D x y : Nat} (hD : 0 < D) (h : NB N D x) (g : NB N D y) : x = y := by
  rcases Nat.eq_zero_or_pos N with c | c
  · rw [h.1 c, g.1 c]
  · obtain ⟨E, hE⟩ := exE c hD
    rw [h.2 c E hE, g.2 c E hE]
theorem nb_neg {M m x : Nat} {V : Int} (h : NB (M * 10 ^ V.toNat) (10 ^ (-V).toNat) x) (hV : V = -(m : Int)) : NB M (10 ^ m) x := by
  subst hV
  rw [show (-(m : Int)).toNat = 0 from by omega, Int.neg_neg, Int.toNat_natCast, Nat.pow_zero, Nat.mul_one] at h
  exact h
/-- The digits as a text; how many of them stand behind the point; those ahead, those behind. -/
def tD (l : List UInt8) : List UInt8 := if l = [] then [48] else l.map dch
def tK (l : List UInt8) (p : Int) : Nat := if 0 < p ∧ p < (l.length : Int) then l.length - p.toNat else 0
def tA (l : List UInt8) (p : Int) : List UInt8 := (tD l).take ((tD l).length - tK l p)
def tB (l : List UInt8) (p : Int) : List UInt8 := (tD l).drop ((tD l).length - tK l p)
theorem tD_all (l : List UInt8) : allD (tD l) := by
  unfold tD
  split
  · intro b hb
    rw [List.mem_singleton.1 hb]
    decide
  · exact dch_all l
theorem tD_len (l : List UInt8) : (tD l).length = if l = [] then 1 else l.length := by
  unfold tD
  split
  · rfl
  · exact List.length_map ..
theorem tK_lt (l : List UInt8) (p : Int) : tK l p < (tD l).length := by
  rw [tD_len]
  unfold tK
  by_cases h : l = []
  · rw [if_pos h, h, if_neg (by simp only [List.length_nil]; omega)]
    omega
  · rw [if_neg h]
    have := List.length_pos_iff.2 h
    split <;> omega
theorem tAB (l : List UInt8) (p : Int) : tA l p ++ tB l p = tD l := List.take_append_drop _ _
theorem tA_all (l : List UInt8) (p : Int) : allD (tA l p) := fun b hb => tD_all l b (List.mem_of_mem_take hb)
theorem tB_all (l : List UInt8) (p : Int) : allD (tB l p) := fun b hb => tD_all l b (List.mem_of_mem_drop hb)
theorem tB_len (l : List UInt8) (p : Int) : (tB l p).length = tK l p := by
  have := tK_lt l p
  unfold tB
  rw [List.length_drop]
  omega
theorem tA_ne (l : List UInt8) (p : Int) : tA l p ≠ [] := by
  intro h
  have h1 : (tA l p).length = 0 := by rw [h]; rfl
  have := tK_lt l p
  unfold tA at h1
  rw [List.length_take] at h1
  omega
theorem tB_nil (l : List UInt8) (p : Int) : tB l p = [] ↔ tK l p = 0 := by rw [← List.length_eq_zero_iff, tB_len]
theorem plT_zero (l : List UInt8) : plT l 0 = tD l := by
  unfold plT tD
  split
  · rfl
  · unfold plD
    rw [if_neg (by omega), List.take_of_length_le (by rw [List.length_map]; omega)]
theorem plT_txt (l : List UInt8) (p : Int) : plT l p = dtx false (tA l p) (tB l p) [] := by
  unfold dtx
  by_cases h : l = []
  · have hk : tK l p = 0 := by unfold tK; rw [h, if_neg (by simp only [List.length_nil]; omega)]
    have hB := (tB_nil l p).2 hk
    have hA := tAB l p
    rw [hB, List.append_nil] at hA
    rw [hB, hA]
    unfold plT tD
    rw [if_pos h, if_pos h]
    rfl
  · have hD : tD l = l.map dch := by unfold tD; rw [if_neg h]
    have hl : (l.map dch).length = l.length := List.length_map ..
    by_cases hp : 0 < p ∧ p < (l.length : Int)
    · have hk : tK l p = l.length - p.toNat := by unfold tK; rw [if_pos hp]
      have hB : tB l p ≠ [] := fun c => by
        have := (tB_nil l p).1 c
        omega
      have e : l.length - (l.length - p.toNat) = p.toNat := by omega
      rw [if_neg hB]
      unfold plT plD tA tB
      rw [if_neg h, if_pos hp, hD, hl, hk, e, List.take_of_length_le (Nat.le_of_eq hl)]
      simp
    · have hk : tK l p = 0 := by unfold tK; rw [if_neg hp]
      have hB := (tB_nil l p).2 hk
      have hA := tAB l p
      rw [hB, List.append_nil] at hA
      rw [hB, hA, hD]
      unfold plT plD
      rw [if_neg h, if_neg hp, List.take_of_length_le (Nat.le_of_eq hl)]
      simp
theorem txt_ahead (O A B : List UInt8) : O ++ dtx false A B [] = dtx false (O ++ A) B [] := by
  unfold dtx
  simp
theorem txt_behind (O A B : List UInt8) : ((if B = [] then dtx false A B [] ++ [46] else dtx false A B []) ++ [48]) ++ O = dtx false A (B ++ 48 :: O) [] := by
  unfold dtx
  by_cases h : B = []
  · rw [if_pos h, h]; simp
  · rw [if_neg h, if_neg h, if_neg (by simp)]; simp
theorem txt_power (ns : Bool) (D Z E : List UInt8) : ((D ++ Z) ++ [101]) ++ ((if ns then [45] else []) ++ E) = dtx false (D ++ Z) [] (ptx ns E) := by
  unfold dtx ptx
  simp
theorem rep_all (z : Nat) : allD (List.replicate z 48) := by
  intro b hb
  rw [(List.mem_replicate.1 hb).2]
  decide
theorem nb_first {l : List UInt8} {p : Int} {x : Nat} (h : NB (nat (tA l p ++ tB l p) * 10 ^ (0 - ((tB l p).length : Int)).toNat) (10 ^ (-(0 - ((tB l p).length : Int))).toNat) x) : NB (nat (tD l)) (10 ^ tK l p) x := by
  have := nb_neg h (m := tK l p) (by rw [tB_len]; omega)
  rw [tAB] at this
  exact this
theorem nb_ahead {l : List UInt8} {p : Int} {x : Nat} (z : Nat) (h : NB (nat ((List.replicate z 48 ++ tA l p) ++ tB l p) * 10 ^ (0 - ((tB l p).length : Int)).toNat) (10 ^ (-(0 - ((tB l p).length : Int))).toNat) x) : NB (nat (tD l)) (10 ^ tK l p) x := by
  have := nb_neg h (m := tK l p) (by rw [tB_len]; omega)
  rw [List.append_assoc, tAB, nat_append, nat_zeros, Nat.zero_mul, Nat.zero_add] at this
  exact this
theorem ten_pos (k : Nat) : 0 < 10 ^ k := Nat.pow_pos (by omega)
theorem nb_behind {l : List UInt8} {p : Int} {x : Nat} (z : Nat) (h : NB (nat (tA l p ++ (tB l p ++ 48 :: List.replicate z 48)) * 10 ^ (0 - ((tB l p ++ 48 :: List.replicate z 48).length : Int)).toNat) (10 ^ (-(0 - ((tB l p ++ 48 :: List.replicate z 48).length : Int))).toNat) x) : NB (nat (tD l)) (10 ^ tK l p) x := by
  have e : (tB l p ++ 48 :: List.replicate z 48).length = tK l p + (z + 1) := by rw [List.length_append, tB_len]; simp
  have := nb_neg h (m := tK l p + (z + 1)) (by rw [e]; omega)
  rw [← List.append_assoc, tAB, ← List.replicate_succ, nat_append, nat_zeros, Nat.add_zero, List.length_replicate] at this
  refine this.same (ten_pos _) (ten_pos _) ?_
  rw [Nat.pow_add 10 (tK l p) (z + 1), Nat.mul_assoc, Nat.mul_comm (10 ^ tK l p)]
theorem nb_power {l : List UInt8} {p : Int} {x : Nat} (n : Nat) {V : Int} (hV : V = -((tK l p + n : Nat) : Int)) (h : NB (nat ((tD l ++ List.replicate n 48) ++ []) * 10 ^ (V - (([] : List UInt8).length : Int)).toNat) (10 ^ (-(V - (([] : List UInt8).length : Int))).toNat) x) : NB (nat (tD l)) (10 ^ tK l p) x := by
  have := nb_neg h (m := tK l p + n) (by rw [hV]; simp)
  rw [List.append_nil, nat_append, nat_zeros, Nat.add_zero, List.length_replicate] at this
  refine this.same (ten_pos _) (ten_pos _) ?_
  rw [Nat.pow_add, Nat.mul_assoc, Nat.mul_comm (10 ^ tK l p)]
end Go.Proofs.YtpdjpjkieafnbaaGreatDoor.Li
namespace Go.Proofs.YtpdjpjkieafnbaaGreatDoor.Fs
/-- How far a rung lies above nought, in units of the least number. -/
def mg (r : Nat) : Nat := (if r < 8388608 then r else 8388608 + r % 8388608) * 2 ^ (r / 8388608 - 1)
theorem mg_step (r : Nat) : mg r < mg (r + 1) := by
  have key : ∀ B : Nat, 0 < B → ∀ r, (if r < B then r else B + r % B) * 2 ^ (r / B - 1) < (if r + 1 < B then r + 1 else B + (r + 1) % B) * 2 ^ ((r + 1) / B - 1) := by
    intro B hB r
    by_cases h1 : r + 1 < B
    · rw [if_pos (by omega), if_pos h1, Nat.div_eq_of_lt (by omega), Nat.div_eq_of_lt h1]; omega
    · by_cases h2 : r + 1 = B
      · rw [if_pos (by omega), if_neg h1, Nat.div_eq_of_lt (by omega), h2, Nat.mod_self, Nat.div_self hB]; simp; omega
      · have h3 : B ≤ r := by omega
        rw [if_neg (by omega), if_neg h1]
        have hq : 1 ≤ r / B := (Nat.le_div_iff_mul_le hB).2 (by omega)
        have hm := Nat.mod_lt r hB
        have e := Nat.div_add_mod r B
        by_cases h4 : r % B + 1 < B
        · have e1 : (r + 1) / B = r / B := by
            rw [Nat.div_eq_iff hB, Nat.mul_comm]; omega
          have e2 : (r + 1) % B = r % B + 1 := by
            rw [Nat.add_mod]
            by_cases hb : B = 1
            · omega
            · rw [Nat.mod_eq_of_lt (a := 1) (by omega), Nat.mod_eq_of_lt h4]
          rw [e1, e2]
          exact Nat.mul_lt_mul_of_pos_right (by omega) (Nat.two_pow_pos _)
        · have e1 : (r + 1) / B = r / B + 1 := by
            rw [Nat.div_eq_iff hB, Nat.mul_comm, Nat.mul_add]; omega
          have e2 : (r + 1) % B = 0 := by
            have : r + 1 = B * (r / B + 1) := by rw [Nat.mul_add]; omega
            rw [this, Nat.mul_mod_right]
          rw [e1, e2, Nat.add_zero, Nat.add_sub_cancel]
          have : 2 ^ (r / B) = 2 * 2 ^ (r / B - 1) := by
            rw [show r / B = (r / B - 1) + 1 by omega, Nat.pow_succ, Nat.add_sub_cancel, Nat.mul_comm]
          rw [this, ← Nat.mul_assoc]
          exact Nat.mul_lt_mul_of_pos_right (by omega) (Nat.two_pow_pos _)
  exact key 8388608 (by omega) r
theorem mg_lt {r s : Nat} (h : r < s) : mg r < mg s := by
  induction s with
  | zero => omega
  | succ s ih =>
    by_cases e : r = s
    · rw [e]; exact mg_step s
    · exact Nat.lt_trans (ih (by omega)) (mg_step s)
theorem mg_zero : mg 0 = 0 := by simp [mg]
theorem mg_pos {r : Nat} (h : 0 < r) : 0 < mg r := by have := mg_lt h; rw [mg_zero] at this; exact this
/-- A word's sign and amount. -/
def negB (x : Nat) : Bool := x / 2147483648 % 2 == 1
def sv (x : Nat) : Int := if negB x then -(mg (x % 2147483648) : Int) else (mg (x % 2147483648) : Int)
/-- The key, counted from nought's. -/
def ky (x : Nat) : Int := if negB x then -((x % 2147483648 : Nat) : Int) else ((x % 2147483648 : Nat) : Int)
theorem sv_lt {x y : Nat} (h : ky x < ky y) : sv x < sv y := by
  unfold ky at h
  unfold sv
  generalize x % 2147483648 = a at h ⊢
  generalize y % 2147483648 = b at h ⊢
  generalize negB x = u at h ⊢
  generalize negB y = v at h ⊢
  have hm : ∀ r s, r < s → (mg r : Int) < mg s := fun r s h => by exact_mod_cast mg_lt h
  have h0 : ∀ r, (0 : Int) ≤ mg r := fun r => by omega
  have hp : ∀ r, 0 < r → (0 : Int) < mg r := fun r h => by exact_mod_cast mg_pos h
  cases u <;> cases v <;> simp only [if_true, if_false, Bool.false_eq_true] at h ⊢
  · exact hm _ _ (by omega)
  · omega
  · by_cases ha : 0 < a
    · have := hp _ ha; have := h0 b; omega
    · have := hp b (by omega); have := h0 a; omega
  · have := hm b a (by omega); omega
theorem sv_eq {x y : Nat} (h : ky x = ky y) : sv x = sv y := by
  unfold ky at h
  unfold sv
  generalize x % 2147483648 = a at h ⊢
  generalize y % 2147483648 = b at h ⊢
  generalize negB x = u at h ⊢
  generalize negB y = v at h ⊢
  have hz : mg 0 = 0 := mg_zero
  cases u <;> cases v <;> simp only [if_true, if_false, Bool.false_eq_true] at h ⊢
  · have : a = b := by omega
    rw [this]
  · obtain ⟨rfl, rfl⟩ : a = 0 ∧ b = 0 := by omega
    omega
  · obtain ⟨rfl, rfl⟩ : a = 0 ∧ b = 0 := by omega
    omega
  · have : a = b := by omega
    rw [this]
theorem cmp_lt {a b : Int} (h : a < b) : compare a b = .lt := by rw [Int.compare_eq_lt]; exact h
theorem cmp_sv (x y : Nat) : compare (sv x) (sv y) = compare (ky x) (ky y) := by
  rcases Int.lt_trichotomy (ky x) (ky y) with h | h | h
  · rw [Int.compare_eq_lt.2 h, Int.compare_eq_lt.2 (sv_lt h)]
  · rw [Int.compare_eq_eq.2 h, Int.compare_eq_eq.2 (sv_eq h)]
  · rw [Int.compare_eq_gt.2 h, Int.compare_eq_gt.2 (sv_lt h)]
@[reducible] def isNaN (x : Nat) : Prop := 2139095040 < x % 2147483648
theorem read_eq (x : Nat) : Ieee.single.read x = if x % 2147483648 < 2139095040 then .number (negB x) (if x % 2147483648 < 8388608 then x % 2147483648 else 8388608 + x % 2147483648 % 8388608) (-149 + ((x % 2147483648 / 8388608 - 1 : Nat) : Int))
    else if x % 2147483648 = 2139095040 then .infinity (negB x) else .nan (negB x) (x % 2147483648 - 2139095040) := by
  have e1 : Ieee.single.signWeight = 2147483648 := by decide
  have e2 : Ieee.single.binade = 8388608 := by decide
  have e3 : Ieee.single.infRung = 2139095040 := by decide
  have e4 : Ieee.single.leastPlace = -149 := by decide
  unfold Ieee.Format.read
  simp only [e1, e2, e3, e4]
  change (if _ then Ieee.Datum.number (negB x) _ _ else _) = _
  by_cases h1 : x % 2147483648 < 8388608
  · rw [if_pos h1, if_pos (by omega), if_pos h1, Nat.div_eq_of_lt h1]; rfl
  · rw [if_neg h1]
    by_cases h2 : x % 2147483648 < 2139095040
    · rw [if_pos h2, if_pos h2, if_neg h1]; rfl
    · rw [if_neg h2, if_neg h2]; rfl
theorem cmp_scale (a b : Int) (k : Nat) : compare (a * 2 ^ k) (b * 2 ^ k) = compare a b := by
  have hp : (0 : Int) < 2 ^ k := Int.pow_pos (by omega)
  rcases Int.lt_trichotomy a b with h | h | h
  · rw [Int.compare_eq_lt.2 h, Int.compare_eq_lt.2 (Int.mul_lt_mul_of_pos_right h hp)]
  · rw [Int.compare_eq_eq.2 h, Int.compare_eq_eq.2 (by rw [h])]
  · rw [Int.compare_eq_gt.2 h, Int.compare_eq_gt.2 (Int.mul_lt_mul_of_pos_right h hp)]
theorem order_num (s t : Bool) (m n i j : Nat) (p : Int) : Ieee.Datum.order (.number s m (p + i)) (.number t n (p + j)) =
    some (compare (if s then -((m * 2 ^ i : Nat) : Int) else ((m * 2 ^ i : Nat) : Int)) (if t then -((n * 2 ^ j : Nat) : Int) else ((n * 2 ^ j : Nat) : Int))) := by
  simp only [Ieee.Datum.order, Ieee.signed, Nat.shiftLeft_eq]
  congr 1
  have hb : (min (p + (i : Int)) (p + j)) = p + ((min i j : Nat) : Int) := by omega
  rw [hb, show (p + (i : Int) - (p + ((min i j : Nat) : Int))).toNat = i - min i j by omega, show (p + (j : Int) - (p + ((min i j : Nat) : Int))).toNat = j - min i j by omega]
  rw [← cmp_scale _ _ (min i j)]
  have e : ∀ (u : Bool) (m k b : Nat), b ≤ k → (if u = true then -((m * 2 ^ (k - b) : Nat) : Int) else ((m * 2 ^ (k - b) : Nat) : Int)) * 2 ^ b = (if u = true then -((m * 2 ^ k : Nat) : Int) else ((m * 2 ^ k : Nat) : Int)) := by
    intro u m k b h
    have h2 : m * 2 ^ (k - b) * 2 ^ b = m * 2 ^ k := by rw [Nat.mul_assoc, ← Nat.pow_add, Nat.sub_add_cancel h]
    have h3 : ((m * 2 ^ (k - b) : Nat) : Int) * 2 ^ b = ((m * 2 ^ k : Nat) : Int) := by rw [← h2]; push_cast; rfl
    cases u
    · simp only [Bool.false_eq_true, if_false]; exact h3
    · simp only [if_true]; rw [Int.neg_mul, h3]
  rw [e s m i _ (Nat.min_le_left _ _), e t n j _ (Nat.min_le_right _ _)]
/-- Two numbers that are no NaN compare as their keys do. -/
theorem order_ky (x y : Nat) (hx : ¬ isNaN x) (hy : ¬ isNaN y) : Ieee.single.order x y = some (compare (ky x) (ky y)) := by
  unfold isNaN at hx hy
  unfold Ieee.Format.order
  rw [read_eq, read_eq]
  by_cases h1 : x % 2147483648 < 2139095040
  · rw [if_pos h1]
    by_cases h2 : y % 2147483648 < 2139095040
    · rw [if_pos h2, order_num, ← cmp_sv]; rfl
    · rw [if_neg h2, if_pos (c := y % 2147483648 = 2139095040) (by omega)]
      simp only [Ieee.Datum.order]
      congr 1
      unfold ky
      cases negB x <;> cases negB y <;> simp only [if_true, if_false, Bool.false_eq_true]
      · rw [Int.compare_eq_lt.2]; omega
      · rw [Int.compare_eq_gt.2]; omega
      · rw [Int.compare_eq_lt.2]; omega
      · rw [Int.compare_eq_gt.2]; omega
  · rw [if_neg h1, if_pos (c := x % 2147483648 = 2139095040) (by omega)]
    by_cases h2 : y % 2147483648 < 2139095040
    · rw [if_pos h2]
      simp only [Ieee.Datum.order]
      congr 1
      unfold ky
      cases negB x <;> cases negB y <;> simp only [if_true, if_false, Bool.false_eq_true]
      · rw [Int.compare_eq_gt.2]; omega
      · rw [Int.compare_eq_gt.2]; omega
      · rw [Int.compare_eq_lt.2]; omega
      · rw [Int.compare_eq_lt.2]; omega
    · rw [if_neg h2, if_pos (c := y % 2147483648 = 2139095040) (by omega)]
      simp only [Ieee.Datum.order]
      congr 1
      unfold ky
      cases negB x <;> cases negB y <;> simp only [if_true, if_false, Bool.false_eq_true]
      · rw [Int.compare_eq_eq.2 (by omega)]; rfl
      · rw [Int.compare_eq_gt.2 (by omega)]; rfl
      · rw [Int.compare_eq_lt.2 (by omega)]; rfl
      · rw [Int.compare_eq_eq.2 (by omega)]; rfl
theorem order_nan (x y : Nat) (h : isNaN x ∨ isNaN y) : Ieee.single.order x y = none := by
  unfold isNaN at h
  unfold Ieee.Format.order
  rw [read_eq, read_eq]
  by_cases h1 : 2139095040 < x % 2147483648
  · rw [if_neg (by omega), if_neg (by omega)]; rfl
  · have h2 : 2139095040 < y % 2147483648 := by rcases h with h | h <;> omega
    rw [if_neg (c := y % 2147483648 < 2139095040) (by omega), if_neg (c := y % 2147483648 = 2139095040) (by omega)]
    by_cases h3 : x % 2147483648 < 2139095040
    · rw [if_pos h3]; rfl
    · rw [if_neg h3, if_pos (by omega)]; rfl
end Go.Proofs.YtpdjpjkieafnbaaGreatDoor.Fs
set_option linter.unusedVariables false
set_option linter.unusedSimpArgs false
namespace Go.Proofs.YtpdjpjkieafnbaaGreatDoor.Li
open Go.RowKit Lb Nr
theorem fl_mono {N N' D : Nat} (h : N ≤ N') (e : Int) : fl N D e ≤ fl N' D e := by
  unfold fl sA
  exact Nat.div_le_div_right (Nat.mul_le_mul_right _ h)
theorem rup_mono {x x' y : Nat} (hy : 0 < y) (h : x ≤ x') : Nr.rup x y ≤ Nr.rup x' y := by
  have hq := Nat.div_le_div_right (c := y) h
  have a := Nat.div_add_mod x y
  have b := Nat.div_add_mod x' y
  have r1 := rup_le x y
  have r2 := rup_le x' y
  rcases Nat.lt_or_eq_of_le hq with c | c
  · omega
  · rw [c] at a
    have d : x % y ≤ x' % y := by
      generalize y * (x' / y) = z at *
      omega
    unfold Nr.rup
    rw [c]
    split
    · rename_i k
      rw [if_pos (by omega)]
      exact Nat.le_refl _
    · split <;> omega
theorem isE_mono {N N' D : Nat} (hD : 0 < D) (h : N ≤ N') {e f : Int} (hE : IsE N D e) (hF : IsE N' D f) : e ≤ f := by
  apply Classical.byContradiction
  intro g
  obtain ⟨a1, a2, a3⟩ := hE
  obtain ⟨b1, b2, b3⟩ := hF
  rcases a3 with c | c
  · omega
  · have q := fl_add (N := N') hD f (e - 1 - f).toNat
    rw [show f + ((e - 1 - f).toNat : Int) = e - 1 by omega] at q
    have r := Nat.div_le_self (fl N' D f) (2 ^ (e - 1 - f).toNat)
    rw [← q] at r
    have s := fl_mono (D := D) h (e - 1)
    omega
theorem wb_monoD {D m m' : Nat} {E E' : Int} (hD : 0 < D) (h : m ≤ m') (hE : IsE m D E) (hE' : IsE m' D E') : wb (Nr.rup (sA m E) (sB D E)) E ≤ wb (Nr.rup (sA m' E') (sB D E')) E' := by
  have hle := isE_mono hD h hE hE'
  obtain ⟨s1, s2⟩ := small_E hD hE
  obtain ⟨t1, t2⟩ := small_E hD hE'
  have b1 := hE.1
  have b2 := hE'.1
  by_cases c : E = E'
  · subst c
    have hm : Nr.rup (sA m E) (sB D E) ≤ Nr.rup (sA m' E) (sB D E) := by
      apply rup_mono (sB_pos hD E)
      unfold sA
      exact Nat.mul_le_mul_right _ h
    generalize Nr.rup (sA m E) (sB D E) = M at *
    generalize Nr.rup (sA m' E) (sB D E) = M' at *
    unfold wb
    split <;> split <;> omega
  · generalize Nr.rup (sA m E) (sB D E) = M at *
    generalize Nr.rup (sA m' E') (sB D E') = M' at *
    have hM' : 4503599627370496 ≤ M' := by
      apply Classical.byContradiction
      intro g
      have := t2 (by omega)
      omega
    unfold wb
    rw [if_pos hM']
    split <;> omega
/-- The greater quotient has the greater bits, or the same. -/
theorem NB.rise {N N' D x x' : Nat} (hD : 0 < D) (h : N ≤ N') (hx : NB N D x) (hx' : NB N' D x') : x ≤ x' := by
  rcases Nat.eq_zero_or_pos N with c | c
  · rw [hx.1 c]; omega
  · obtain ⟨E, hE⟩ := exE c hD
    obtain ⟨E', hE'⟩ := exE (show 0 < N' by omega) hD
    rw [hx.2 c E hE, hx'.2 (by omega) E' hE']
    exact wb_monoD hD h hE hE'
theorem ky_of (g : Nat) (ng : Bool) (h : g ≤ 9218868437227405312) : Fo.ky (g + sg ng) = (if ng then -(g : Int) else (g : Int)) ∧ ¬ Fo.isNaN (g + sg ng) ∧ g + sg ng < 18446744073709551616 := by
  have hsg : sg ng = if ng then 9223372036854775808 else 0 := rfl
  rw [hsg]
  unfold Fo.ky Fo.negB Fo.isNaN
  cases ng
  · simp only [Bool.false_eq_true, if_false, Nat.add_zero]
    rw [Nat.mod_eq_of_lt (by omega), Nat.div_eq_of_lt (by omega)]
    simp; omega
  · simp only [if_true]
    rw [show (g + 9223372036854775808) % 9223372036854775808 = g by omega, show (g + 9223372036854775808) / 9223372036854775808 % 2 = 1 by omega]
    simp; omega
/-- How the bits of two amounts compare, both with one sign. -/
theorem ord_like (ng : Bool) {x y : Nat} (hx : x ≤ 9218868437227405312) (hy : y ≤ 9218868437227405312) (h : x ≤ y) :
    FloatKind.f64.format.order (x + sg ng) (y + sg ng) = some (if x = y then .eq else if ng then .gt else .lt) := by
  obtain ⟨a1, a2, -⟩ := ky_of x ng hx
  obtain ⟨b1, b2, -⟩ := ky_of y ng hy
  have q := Fo.order_ky _ _ a2 b2
  rw [a1, b1] at q
  refine Eq.trans q ?_
  congr 1
  by_cases c : x = y
  · rw [if_pos c, Int.compare_eq_eq.2 (by rw [c])]
  · rw [if_neg c]
    cases ng
    · simp only [Bool.false_eq_true, if_false]
      rw [Int.compare_eq_lt.2 (by omega)]
    · simp only [if_true]
      rw [Int.compare_eq_gt.2 (by omega)]
end Go.Proofs.YtpdjpjkieafnbaaGreatDoor.Li
namespace Go.Proofs.YtpdjpjkieafnbaaGreatDoor.Li.Nw
open Go.RowKit Lb Nr
theorem isE_mono {N N' D : Nat} (hD : 0 < D) (h : N ≤ N') {e f : Int} (hE : IsE N D e) (hF : IsE N' D f) : e ≤ f := by
  apply Classical.byContradiction
  intro g
  obtain ⟨a1, a2, a3⟩ := hE
  obtain ⟨b1, b2, b3⟩ := hF
  rcases a3 with c | c
  · omega
  · have q := fl_add (N := N') hD f (e - 1 - f).toNat
    rw [show f + ((e - 1 - f).toNat : Int) = e - 1 by omega] at q
    have r := Nat.div_le_self (fl N' D f) (2 ^ (e - 1 - f).toNat)
    rw [← q] at r
    have s := fl_mono (D := D) h (e - 1)
    omega
theorem wb_monoD {D m m' : Nat} {E E' : Int} (hD : 0 < D) (h : m ≤ m') (hE : IsE m D E) (hE' : IsE m' D E') : wb (Nr.rup (sA m E) (sB D E)) E ≤ wb (Nr.rup (sA m' E') (sB D E')) E' := by
  have hle := isE_mono hD h hE hE'
  obtain ⟨s1, s2⟩ := small_E hD hE
  obtain ⟨t1, t2⟩ := small_E hD hE'
  have b1 := hE.1
  have b2 := hE'.1
  by_cases c : E = E'
  · subst c
    have hm : Nr.rup (sA m E) (sB D E) ≤ Nr.rup (sA m' E) (sB D E) := by
      apply rup_mono (sB_pos hD E)
      unfold sA
      exact Nat.mul_le_mul_right _ h
    generalize Nr.rup (sA m E) (sB D E) = M at *
    generalize Nr.rup (sA m' E) (sB D E) = M' at *
    unfold wb
    split <;> split <;> omega
  · generalize Nr.rup (sA m E) (sB D E) = M at *
    generalize Nr.rup (sA m' E') (sB D E') = M' at *
    have hM' : 8388608 ≤ M' := by
      apply Classical.byContradiction
      intro g
      have := t2 (by omega)
      omega
    unfold wb
    rw [if_pos hM']
    split <;> omega
/-- The greater quotient has the greater bits, or the same. -/
theorem NB.rise {N N' D x x' : Nat} (hD : 0 < D) (h : N ≤ N') (hx : NB N D x) (hx' : NB N' D x') : x ≤ x' := by
  rcases Nat.eq_zero_or_pos N with c | c
  · rw [hx.1 c]; omega
  · obtain ⟨E, hE⟩ := exE c hD
    obtain ⟨E', hE'⟩ := exE (show 0 < N' by omega) hD
    rw [hx.2 c E hE, hx'.2 (by omega) E' hE']
    exact wb_monoD hD h hE hE'
theorem ky_of (g : Nat) (ng : Bool) (h : g ≤ 2139095040) : Fs.ky (g + sg ng) = (if ng then -(g : Int) else (g : Int)) ∧ ¬ Fs.isNaN (g + sg ng) ∧ g + sg ng < 4294967296 := by
  have hsg : sg ng = if ng then 2147483648 else 0 := rfl
  rw [hsg]
  unfold Fs.ky Fs.negB Fs.isNaN
  cases ng
  · simp only [Bool.false_eq_true, if_false, Nat.add_zero]
    rw [Nat.mod_eq_of_lt (by omega), Nat.div_eq_of_lt (by omega)]
    simp; omega
  · simp only [if_true]
    rw [show (g + 2147483648) % 2147483648 = g by omega, show (g + 2147483648) / 2147483648 % 2 = 1 by omega]
    simp; omega
/-- How the bits of two amounts compare, both with one sign. -/
theorem ord_like (ng : Bool) {x y : Nat} (hx : x ≤ 2139095040) (hy : y ≤ 2139095040) (h : x ≤ y) :
    FloatKind.f32.format.order (x + sg ng) (y + sg ng) = some (if x = y then .eq else if ng then .gt else .lt) := by
  obtain ⟨a1, a2, -⟩ := ky_of x ng hx
  obtain ⟨b1, b2, -⟩ := ky_of y ng hy
  have q := Fs.order_ky _ _ a2 b2
  rw [a1, b1] at q
  refine Eq.trans q ?_
  congr 1
  by_cases c : x = y
  · rw [if_pos c, Int.compare_eq_eq.2 (by rw [c])]
  · rw [if_neg c]
    cases ng
    · simp only [Bool.false_eq_true, if_false]
      rw [Int.compare_eq_lt.2 (by omega)]
    · simp only [if_true]
      rw [Int.compare_eq_gt.2 (by omega)]
end Go.Proofs.YtpdjpjkieafnbaaGreatDoor.Li.Nw
set_option linter.unusedVariables false
set_option linter.unusedSimpArgs false
namespace Go.Proofs.YtpdjpjkieafnbaaGreatDoor.Li
open Go.RowKit Lb Nr
/-- The digits that are not less. -/
def mrD (l ad : List UInt8) (i : Nat) : UInt8 := UInt8.ofNat ((l.getD i 0).toNat % 10 + (if i < ad.length then (ad.getD i 0).toNat % (10 - (l.getD i 0).toNat % 10) else 0))
def mr (l ad : List UInt8) : List UInt8 := (List.range l.length).map (mrD l ad)
theorem mr_len (l ad : List UInt8) : (mr l ad).length = l.length := by unfold mr; simp
theorem mr_take (l ad : List UInt8) (i : Nat) (h : i < l.length) : (mr l ad).take (i + 1) = (mr l ad).take i ++ [mrD l ad i] := by
  have hi : i < (mr l ad).length := by rw [mr_len]; exact h
  rw [List.take_succ_eq_append_getElem hi]
  have e : (mr l ad)[i] = mrD l ad i := by simp only [mr, List.getElem_map, List.getElem_range]
  rw [e]
theorem mrD_val (l ad : List UInt8) (i : Nat) : (mrD l ad i).toNat = (l.getD i 0).toNat % 10 + (if i < ad.length then (ad.getD i 0).toNat % (10 - (l.getD i 0).toNat % 10) else 0) ∧ (mrD l ad i).toNat < 10 ∧ (l.getD i 0).toNat % 10 ≤ (mrD l ad i).toNat := by
  unfold mrD
  have h1 : (l.getD i 0).toNat % 10 < 10 := Nat.mod_lt _ (by omega)
  generalize (l.getD i 0).toNat % 10 = d at *
  have hv : d + (if i < ad.length then (ad.getD i 0).toNat % (10 - d) else 0) < 10 := by
    split
    · have := Nat.mod_lt (ad.getD i 0).toNat (show 0 < 10 - d by omega)
      omega
    · omega
  generalize (if i < ad.length then (ad.getD i 0).toNat % (10 - d) else 0) = r at *
  have e : (UInt8.ofNat (d + r)).toNat = d + r := by
    rw [UInt8.toNat_ofNat']
    exact Nat.mod_eq_of_lt (by omega)
  rw [e]
  exact ⟨rfl, hv, by omega⟩
theorem nat_mono : ∀ (A B : List UInt8), A.length = B.length → (∀ i, i < A.length → dv (A.getD i 0) ≤ dv (B.getD i 0)) → nat A ≤ nat B
  | [], [], _, _ => Nat.le_refl _
  | a :: A, b :: B, h, g => by
    rw [nat_cons, nat_cons]
    have hl : A.length = B.length := by simpa using h
    have h0 := g 0 (by simp)
    have h1 := nat_mono A B hl (fun i hi => by have := g (i + 1) (by simp; omega); simpa using this)
    rw [hl]
    have h2 : dv a * 10 ^ B.length ≤ dv b * 10 ^ B.length := Nat.mul_le_mul_right _ (by simpa using h0)
    omega
  | [], _ :: _, h, _ => by simp at h
  | _ :: _, [], h, _ => by simp at h
theorem dch_dv (b : UInt8) : dv (dch b) = b.toNat % 10 := (dig_ok (Nat.mod_lt _ (by omega))).2
theorem tD_mono (l ad : List UInt8) : nat (tD l) ≤ nat (tD (mr l ad)) := by
  unfold tD
  by_cases h : l = []
  · have : mr l ad = [] := by rw [h]; rfl
    rw [if_pos h, if_pos this]
    exact Nat.le_refl _
  · have hm : mr l ad ≠ [] := fun c => h (List.length_eq_zero_iff.1 (by rw [← mr_len l ad, c]; rfl))
    rw [if_neg h, if_neg hm]
    apply nat_mono
    · rw [List.length_map, List.length_map, mr_len]
    · intro i hi
      rw [List.length_map] at hi
      have e1 : (l.map dch).getD i 0 = dch (l.getD i 0) := by simp [List.getD, hi]
      have e2 : ((mr l ad).map dch).getD i 0 = dch (mrD l ad i) := by unfold mr; simp [List.getD, hi]
      rw [e1, e2, dch_dv, dch_dv]
      have := mrD_val l ad i
      omega
theorem tK_mr (l ad : List UInt8) (p : Int) : tK (mr l ad) p = tK l p := by unfold tK; rw [mr_len]
theorem txt_full (ng ns : Bool) (l E : List UInt8) (p : Int) : (if ng then [45] else []) ++ (plT l p ++ ptx ns E) = dtx ng (tA l p) (tB l p) (ptx ns E) := by
  rw [plT_txt]
  unfold dtx
  simp
theorem plT_size (l : List UInt8) (p : Int) : (plT l p).length = (if l.length = 0 then 1 else l.length) + (if tK l p = 0 then 0 else 1) := by
  rw [plT_txt]
  unfold dtx
  have h2 := congrArg List.length (tAB l p)
  have h3 : (tD l).length = if l.length = 0 then 1 else l.length := by
    unfold tD
    by_cases h : l = []
    · rw [if_pos h, h]; rfl
    · rw [if_neg h, List.length_map, if_neg (fun c => h (List.length_eq_zero_iff.1 c))]
  rw [List.length_append, h3] at h2
  by_cases h : tK l p = 0
  · have hB := (tB_nil l p).2 h
    rw [hB] at h2 ⊢
    rw [if_pos h, ← h2]
    simp
  · have hB : tB l p ≠ [] := fun c => h ((tB_nil l p).1 c)
    rw [if_neg h, if_neg hB, ← h2]
    simp
    omega
/-- What is read of such a text. -/
def rN (l : List UInt8) (p : Int) (V : Int) : Nat := nat (tD l) * 10 ^ (V - (tK l p : Int)).toNat
def rD (l : List UInt8) (p : Int) (V : Int) : Nat := 10 ^ (-(V - (tK l p : Int))).toNat
theorem rD_pos (l : List UInt8) (p V : Int) : 0 < rD l p V := Nat.pow_pos (by omega)
theorem rN_mono (l ad : List UInt8) (p V : Int) : rN l p V ≤ rN (mr l ad) p V := by
  unfold rN
  rw [tK_mr]
  exact Nat.mul_le_mul_right _ (tD_mono l ad)
theorem rD_mr (l ad : List UInt8) (p V : Int) : rD (mr l ad) p V = rD l p V := by unfold rD; rw [tK_mr]
theorem Read_pl (ng ns : Bool) (l E : List UInt8) (p : Int) (hE : allD E) (hE0 : E ≠ []) (w : World) (hl : ((if ng then [45] else []) ++ (plT l p ++ ptx ns E)).length ≤ 4096) :
    Calls Tryz.prog 12 #[.string ⟨((if ng then [45] else []) ++ (plT l p ++ ptx ns E)).toArray⟩] w fun e w' =>
      ∃ x : Nat, e = .returned (.tuple #[.float .f64 (x + sg ng), .int .i64 0, .int .i64 0]) ∧ NB (rN l p (pwN ns E)) (rD l p (pwN ns E)) x ∧ Keep w w' := by
  rw [txt_full] at hl ⊢
  have h := Read_txt ng (tA l p) (tB l p) (ptx ns E) (pwN ns E) (tA_all l p) (tA_ne l p) (tB_all l p) (.inr ⟨ns, E, rfl, hE, hE0, rfl⟩) hl w
  rw [tAB, tB_len] at h
  exact h
theorem Read32_pl (ng ns : Bool) (l E : List UInt8) (p : Int) (hE : allD E) (hE0 : E ≠ []) (w : World) (hl : ((if ng then [45] else []) ++ (plT l p ++ ptx ns E)).length ≤ 4096) :
    Calls Tryz.prog 16 #[.string ⟨((if ng then [45] else []) ++ (plT l p ++ ptx ns E)).toArray⟩] w fun e w' =>
      ∃ x : Nat, e = .returned (.tuple #[.float .f32 (x + Nw.sg ng), .int .i64 0, .int .i64 0]) ∧ Nw.NB (rN l p (pwN ns E)) (rD l p (pwN ns E)) x ∧ Keep w w' := by
  rw [txt_full] at hl ⊢
  have h := Nw.Read_txt ng (tA l p) (tB l p) (ptx ns E) (pwN ns E) (tA_all l p) (tA_ne l p) (tB_all l p) (.inr ⟨ns, E, rfl, hE, hE0, rfl⟩) hl w
  rw [tAB, tB_len] at h
  exact h
/-- Bytes of one's own, grown by append. -/
def U5 (l : List UInt8) : List Value := l.map (fun x => Value.int .u8 (x.toNat : Nat))
def Own5 (B : Nat) (w : World) (v : Value) (l : List UInt8) : Prop := w.ownsRow B 5 1 v l.length (U5 l)
theorem i5b : (Tryz.prog.info? 5).map (fun i => (i.zero, i.size, i.bytes)) = some (some (.int .u8 0), 1, 1) := by kernel_rfl
theorem Own5.nil (B : Nat) (w : World) : Own5 B w (.slice none 0 0) [] := ⟨by simp [U5], .inl ⟨rfl, rfl⟩⟩
theorem Own5.rd {B : Nat} {w : World} {v : Value} {l : List UInt8} (h : Own5 B w v l) : ∃ a c, v = .slice a l.length c ∧ Rd5 w a l := by
  rcases h.2 with ⟨h1, h2⟩ | ⟨g, cap, cur, hv, hg, hh, r1, r2, r3, r4⟩
  · exact ⟨none, 0, by rw [h1, h2], fun i hi => by omega⟩
  · refine ⟨some ⟨g, 0, none⟩, cap, hv, fun i hi => ⟨g, 0, rfl, ?_⟩⟩
    rw [Nat.mul_one] at r4
    have e : cur.toList[i]? = (U5 l)[i]? := by rw [← r4, List.getElem?_take, if_pos (by omega)]
    rw [Nat.zero_add, cell_of_row w g i cur 5 (0, 0) hh]
    have : cur[i]? = cur.toList[i]? := by simp
    rw [this, e]
    simp [U5, List.getD, hi]
theorem wpList_app5 {w0 wr : World} {ops : Array Oper} {rest : List Oper} {o : Oper} {a : Act} {Q : Exit → Act → World → Prop} (hgd : o.guard = none) (s x : Operand)
    (ho : o.op = .call { callee := .builtin .append, args := #[s, x], argTypes := #[61, 61] }) (l : List UInt8) (v : Value) (hs : a.eval s = v) (Y : Int) (y : UInt8) (hY : Y = (y.toNat : Int))
    (hx : a.eval x = .slice (some ⟨wr.heap.size, 0, none⟩) 1 1) (hown : Own5 w0.heap.size wr v l) (hk : Keep w0 wr) (hlen : l.length + 1 ≤ 140737488355328)
    (hK : ∀ v' w1, Own5 w0.heap.size w1 v' (l ++ [y]) → Keep w0 w1 → wpList Tryz.prog ops Q rest (a.put o.dst v') w1) :
    wpList Tryz.prog ops Q (o :: rest) a (wr.alloc (.cells #[.int .u8 Y] 5)) := by
  obtain ⟨i0, hi, hz0, hz1, hz2⟩ := info_parts i5b
  subst hY
  refine wpList_append_own _ hgd s x 61 ho w0.heap.size 5 i0 (.int .u8 0) 1 1 Tryz.underlying61 hi hz0 hz1 hz2 rfl (by decide) v _ _ hs (World.ownsRow.alloc hown _) ⟨wr.heap.size, 0, none⟩ 1 1 [.int .u8 (y.toNat : Int)] hx rfl ?_ ?_ ?_ ?_ ?_ ?_
  · intro j u hj
    match j, hj with
    | 0, hj => simp at hj; subst hj; simp [Addr.add]
  · intro u hu; simp at hu; subst hu; rfl
  · simp only [maxLen]; omega
  · omega
  · have := hk.le; simp; omega
  · intro v' w1 h1 h2 _
    refine hK v' w1 ?_ ?_
    · unfold Own5; simpa [U5] using h1
    · refine Below.grown (hk.alloc _) h2 (by have := hk.le; simp; omega) ?_
      intro k hk'
      have := World.ownsRow.lt hown k hk'
      exact this.1
end Go.Proofs.YtpdjpjkieafnbaaGreatDoor.Li
