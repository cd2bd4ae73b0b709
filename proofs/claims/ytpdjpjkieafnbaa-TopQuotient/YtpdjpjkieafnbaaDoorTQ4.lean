import Derived.Test.YtpdjpjkieafnbaaDoorW1
import Derived.Test.YtpdjpjkieafnbaaDoorRP
import Derived.Test.YtpdjpjkieafnbaaDoorNC10
import Ieee.Arith
import Derived.BigQuiet
import Derived.Deep.Cut
import Derived.Deep.CutRange
set_option linter.unusedVariables false
set_option linter.unusedSimpArgs false
namespace Go.Proofs.YtpdjpjkieafnbaaDoor.Li
open Go.RowKit Lb Nr
theorem f64bits (x : Nat) (w : World) : (callFunc 12 #[.float .f64 x]).run Tryd.prog w = .ok (.value (.int .u64 (x : Nat))) w := by
  rw [run_callFunc_extern Tryd.func12 (by kernel_rfl) (by kernel_rfl) (by kernel_rfl) (e := Extern.MathFloatBits.float64bits) (by kernel_rfl)]
  rfl
theorem half_E : IsE 5 10 (-53) := by
  unfold IsE fl sA sB
  decide +kernel
theorem Read_half (w : World) : Calls Tryd.prog 4 #[.string ⟨#[48, 46, 53]⟩] w fun e w' => e = .returned (.tuple #[.float .f64 4602678819172646912, .int .i64 0, .int .i64 0]) ∧ Keep w w' := by
  refine (Read_dec [48, 46, 53] w (by decide) (by decide) (by decide)).mono ?_
  rintro e w' ⟨x, rfl, hx, k⟩
  have e1 : rdN [48, 46, 53] * 10 ^ (rdP [48, 46, 53]).toNat = 5 := by decide
  have e2 : 10 ^ (-(rdP [48, 46, 53])).toNat = 10 := by decide
  rw [e1, e2] at hx
  have hx2 : x = 4602678819172646912 := by
    rw [hx.2 (by omega) (-53) half_E]
    decide +kernel
  have e3 : sg (cNg [48, 46, 53]) = 0 := by decide
  rw [hx2, e3]
  exact ⟨rfl, k⟩
/-- Print of a number of 64 bits. -/
theorem Print_from (n : Nat) (hn : n < 18446744073709551616) (w : World) (v : Value) (h : Lv w v n 2) :
    Calls Tryd.prog 5 #[v] w fun e w' => e = .returned (.string ⟨(dD n).toArray⟩) ∧ Keep w w' := by
  obtain ⟨a, c, l, rfl, p1, p2, p3, p4, p5⟩ := h
  have q := Print_dD a c l w p1 (by omega) p3 p4
  rw [p5] at q
  exact q
/-- A whole number's text. -/
def nmT (z : Int) : List UInt8 := (if z < 0 then [45] else []) ++ dD z.natAbs
set_option maxRecDepth 100000 in
set_option maxHeartbeats 800000 in
theorem number_any (z : Int) (w : World) (h1 : -1073741824 ≤ z) (h2 : z ≤ 1073741824) :
    Calls Tryd.prog 8 #[.int .i64 z] w fun e w' => e = .returned (.string ⟨(nmT z).toArray⟩) ∧ Keep w w' := by
  have hF := fun n wx (h : n < 18446744073709551616) => From_lv n wx h
  have hP := fun n wx (h : n < 18446744073709551616) v hv => Print_from n h wx v hv
  by_cases hz : z < 0
  · obtain ⟨n, hn⟩ : ∃ n : Nat, z.natAbs = n := ⟨_, rfl⟩
    have d0 : decide (z < 0) = true := decide_eq_true hz
    have hw1 : IntKind.i64.wrap (z + 1) = z + 1 := by rw [IntWalk.i64_left]; exact IntWalk.wrap64_in _ (by omega)
    have hw2 : IntKind.i64.wrap (-(z + 1)) = ((n - 1 : Nat) : Int) := by rw [show -(z + 1) = ((n - 1 : Nat) : Int) by omega, IntWalk.i64_left]; exact IntWalk.wrap64_in _ (by omega)
    have hw2b : wrap64 (-(z + 1)) = ((n - 1 : Nat) : Int) := by rw [← IntWalk.i64_left]; exact hw2
    have hw3 : IntKind.u64.wrap ((n - 1 : Nat) : Int) = ((n - 1 : Nat) : Int) := by rw [IntKind.wrap_u64]; omega
    have hw4 : IntKind.u64.wrap (((n - 1 : Nat) : Int) + 1) = (n : Int) := by rw [IntKind.wrap_u64]; omega
    have hneg : -(z + 1) = ((n - 1 : Nat) : Int) := by omega
    have HT : Hid (nmT z = 45 :: dD n) := by unfold Hid nmT; rw [if_pos hz, hn]; rfl
    have hF' := fun wx => hF n wx (by omega)
    have hP' := fun wx v hv => hP n wx (by omega) v hv
    have hcat := catB [45] (dD n)
    have hdl : (dD n).length ≤ 20 := dD_len 19 n (by show n < 100000000000000000000; omega)
    have hsz : (ByteArray.mk (dD n).toArray).size = (dD n).length := sz_mk _
    obtain ⟨m, hm⟩ : ∃ m, n - 1 = m := ⟨_, rfl⟩
    rw [hm] at hw2 hw2b hw3 hw4 hneg
    have hmn : (m : Int) + 1 = (n : Int) := by omega
    obtain ⟨T, hT⟩ : ∃ T, dD n = T := ⟨_, rfl⟩
    rw [hT] at HT hP' hcat hdl hsz
    clear hn hF hP hT
    go_enter Tryd.func8, Tryd.ntmps8
    go_wp2_with fail
    refine (hF' _).mono ?_
    rintro e w2 ⟨v, rfl, hv, k2⟩
    go_wp2_with fail
    refine (hP' _ v hv).mono ?_
    rintro e w3 ⟨rfl, k3⟩
    go_wp2_with fail
    go_ret
    exact ⟨by rw [HT.out]; first | rfl | exact congrArg (fun x => Ending.returned (Value.string x)) hcat, k2.trans k3⟩
  · obtain ⟨n, hn⟩ : ∃ n : Nat, z = (n : Int) := ⟨z.natAbs, by omega⟩
    subst hn
    have d0 : decide ((n : Int) < 0) = false := decide_eq_false hz
    have hw3 : IntKind.u64.wrap (n : Int) = (n : Int) := by rw [IntKind.wrap_u64]; omega
    have HT : Hid (nmT (n : Int) = dD n) := by unfold Hid nmT; rw [if_neg hz]; rfl
    have hF' := fun wx => hF n wx (by omega)
    have hP' := fun wx v hv => hP n wx (by omega) v hv
    clear hF hP hz
    go_enter Tryd.func8, Tryd.ntmps8
    go_wp2_with fail
    refine (hF' _).mono ?_
    rintro e w2 ⟨v, rfl, hv, k2⟩
    go_wp2_with fail
    refine (hP' _ v hv).mono ?_
    rintro e w3 ⟨rfl, k3⟩
    go_wp2_with fail
    go_ret
    exact ⟨by rw [HT.out]; rfl, k2.trans k3⟩
end Go.Proofs.YtpdjpjkieafnbaaDoor.Li
namespace Go.Proofs.YtpdjpjkieafnbaaDoor.Fo
/-- How far a rung lies above nought, in units of the least number. -/
def mg (r : Nat) : Nat := (if r < 4503599627370496 then r else 4503599627370496 + r % 4503599627370496) * 2 ^ (r / 4503599627370496 - 1)
theorem mg_step (r : Nat) : mg r < mg (r + 1) := by
  have key : ∀ B : Nat, 0 < B → ∀ r, (if r < B then r else B + r % B) * 2 ^ (r / B - 1) < (if r + 1 < B then r + 1 else B + (r + 1) % B) * 2 ^ ((r + 1) / B - 1) := by
    intro B hB r
    by_cases h1 : r + 1 < B
    · rw [if_pos (by omega), if_pos h1, Nat.div_eq_of_lt (by omega), Nat.div_eq_of_lt h1]; omega
    · by_cases h2 : r + 1 = B
      · rw [if_pos (by omega), if_neg h1, Nat.div_eq_of_lt (by omega), h2, Nat.mod_self, Nat.div_self hB]; simp; omega
      · have h3 : B ≤ r := by omega
        rw [if_neg (by omega), if_neg h1]
        have hq : 1 ≤ r / B := (Nat.le_div_iff_mul_le hB).2 (by omega)
        have hm := Nat.mod_lt r hB
        have e := Nat.div_add_mod r B
        by_cases h4 : r % B + 1 < B
        · have e1 : (r + 1) / B = r / B := by
            rw [Nat.div_eq_iff hB, Nat.mul_comm]; omega
          have e2 : (r + 1) % B = r % B + 1 := by
            rw [Nat.add_mod]
            by_cases hb : B = 1
            · omega
            · rw [Nat.mod_eq_of_lt (a := 1) (by omega), Nat.mod_eq_of_lt h4]
          rw [e1, e2]
          exact Nat.mul_lt_mul_of_pos_right (by omega) (Nat.two_pow_pos _)
        · have e1 : (r + 1) / B = r / B + 1 := by
            rw [Nat.div_eq_iff hB, Nat.mul_comm, Nat.mul_add]; omega
          have e2 : (r + 1) % B = 0 := by
            have : r + 1 = B * (r / B + 1) := by rw [Nat.mul_add]; omega
            rw [this, Nat.mul_mod_right]
          rw [e1, e2, Nat.add_zero, Nat.add_sub_cancel]
          have : 2 ^ (r / B) = 2 * 2 ^ (r / B - 1) := by
            rw [show r / B = (r / B - 1) + 1 by omega, Nat.pow_succ, Nat.add_sub_cancel, Nat.mul_comm]
          rw [this, ← Nat.mul_assoc]
          exact Nat.mul_lt_mul_of_pos_right (by omega) (Nat.two_pow_pos _)
  exact key 4503599627370496 (by omega) r
theorem mg_lt {r s : Nat} (h : r < s) : mg r < mg s := by
  induction s with
  | zero => omega
  | succ s ih =>
    by_cases e : r = s
    · rw [e]; exact mg_step s
    · exact Nat.lt_trans (ih (by omega)) (mg_step s)
theorem mg_zero : mg 0 = 0 := by simp [mg]
theorem mg_pos {r : Nat} (h : 0 < r) : 0 < mg r := by have := mg_lt h; rw [mg_zero] at this; exact this
/-- A word's sign and amount. -/
def negB (x : Nat) : Bool := x / 9223372036854775808 % 2 == 1
def sv (x : Nat) : Int := if negB x then -(mg (x % 9223372036854775808) : Int) else (mg (x % 9223372036854775808) : Int)
/-- The key, counted from nought's. -/
def ky (x : Nat) : Int := if negB x then -((x % 9223372036854775808 : Nat) : Int) else ((x % 9223372036854775808 : Nat) : Int)
theorem sv_lt {x y : Nat} (h : ky x < ky y) : sv x < sv y := by
  unfold ky at h
  unfold sv
  generalize x % 9223372036854775808 = a at h ⊢
  generalize y % 9223372036854775808 = b at h ⊢
  generalize negB x = u at h ⊢
  generalize negB y = v at h ⊢
  have hm : ∀ r s, r < s → (mg r : Int) < mg s := fun r s h => by exact_mod_cast mg_lt h
  have h0 : ∀ r, (0 : Int) ≤ mg r := fun r => by omega
  have hp : ∀ r, 0 < r → (0 : Int) < mg r := fun r h => by exact_mod_cast mg_pos h
  cases u <;> cases v <;> simp only [if_true, if_false, Bool.false_eq_true] at h ⊢
  · exact hm _ _ (by omega)
  · omega
  · by_cases ha : 0 < a
    · have := hp _ ha; have := h0 b; omega
    · have := hp b (by omega); have := h0 a; omega
  · have := hm b a (by omega); omega
theorem sv_eq {x y : Nat} (h : ky x = ky y) : sv x = sv y := by
  unfold ky at h
  unfold sv
  generalize x % 9223372036854775808 = a at h ⊢
  generalize y % 9223372036854775808 = b at h ⊢
  generalize negB x = u at h ⊢
  generalize negB y = v at h ⊢
  have hz : mg 0 = 0 := mg_zero
  cases u <;> cases v <;> simp only [if_true, if_false, Bool.false_eq_true] at h ⊢
  · have : a = b := by omega
    rw [this]
  · obtain ⟨rfl, rfl⟩ : a = 0 ∧ b = 0 := by omega
    omega
  · obtain ⟨rfl, rfl⟩ : a = 0 ∧ b = 0 := by omega
    omega
  · have : a = b := by omega
    rw [this]
theorem cmp_lt {a b : Int} (h : a < b) : compare a b = .lt := by rw [Int.compare_eq_lt]; exact h
theorem cmp_sv (x y : Nat) : compare (sv x) (sv y) = compare (ky x) (ky y) := by
  rcases Int.lt_trichotomy (ky x) (ky y) with h | h | h
  · rw [Int.compare_eq_lt.2 h, Int.compare_eq_lt.2 (sv_lt h)]
  · rw [Int.compare_eq_eq.2 h, Int.compare_eq_eq.2 (sv_eq h)]
  · rw [Int.compare_eq_gt.2 h, Int.compare_eq_gt.2 (sv_lt h)]
@[reducible] def isNaN (x : Nat) : Prop := 9218868437227405312 < x % 9223372036854775808
theorem read_eq (x : Nat) : Ieee.double.read x = if x % 9223372036854775808 < 9218868437227405312 then .number (negB x) (if x % 9223372036854775808 < 4503599627370496 then x % 9223372036854775808 else 4503599627370496 + x % 9223372036854775808 % 4503599627370496) (-1074 + ((x % 9223372036854775808 / 4503599627370496 - 1 : Nat) : Int))
    else if x % 9223372036854775808 = 9218868437227405312 then .infinity (negB x) else .nan (negB x) (x % 9223372036854775808 - 9218868437227405312) := by
  have e1 : Ieee.double.signWeight = 9223372036854775808 := by decide
  have e2 : Ieee.double.binade = 4503599627370496 := by decide
  have e3 : Ieee.double.infRung = 9218868437227405312 := by decide
  have e4 : Ieee.double.leastPlace = -1074 := by decide
  unfold Ieee.Format.read
  simp only [e1, e2, e3, e4]
  change (if _ then Ieee.Datum.number (negB x) _ _ else _) = _
  by_cases h1 : x % 9223372036854775808 < 4503599627370496
  · rw [if_pos h1, if_pos (by omega), if_pos h1, Nat.div_eq_of_lt h1]; rfl
  · rw [if_neg h1]
    by_cases h2 : x % 9223372036854775808 < 9218868437227405312
    · rw [if_pos h2, if_pos h2, if_neg h1]; rfl
    · rw [if_neg h2, if_neg h2]; rfl
theorem cmp_scale (a b : Int) (k : Nat) : compare (a * 2 ^ k) (b * 2 ^ k) = compare a b := by
  have hp : (0 : Int) < 2 ^ k := Int.pow_pos (by omega)
  rcases Int.lt_trichotomy a b with h | h | h
  · rw [Int.compare_eq_lt.2 h, Int.compare_eq_lt.2 (Int.mul_lt_mul_of_pos_right h hp)]
  · rw [Int.compare_eq_eq.2 h, Int.compare_eq_eq.2 (by rw [h])]
  · rw [Int.compare_eq_gt.2 h, Int.compare_eq_gt.2 (Int.mul_lt_mul_of_pos_right h hp)]
theorem order_num (s t : Bool) (m n i j : Nat) (p : Int) : Ieee.Datum.order (.number s m (p + i)) (.number t n (p + j)) =
    some (compare (if s then -((m * 2 ^ i : Nat) : Int) else ((m * 2 ^ i : Nat) : Int)) (if t then -((n * 2 ^ j : Nat) : Int) else ((n * 2 ^ j : Nat) : Int))) := by
  simp only [Ieee.Datum.order, Ieee.signed, Nat.shiftLeft_eq]
  congr 1
  have hb : (min (p + (i : Int)) (p + j)) = p + ((min i j : Nat) : Int) := by omega
  rw [hb, show (p + (i : Int) - (p + ((min i j : Nat) : Int))).toNat = i - min i j by omega, show (p + (j : Int) - (p + ((min i j : Nat) : Int))).toNat = j - min i j by omega]
  rw [← cmp_scale _ _ (min i j)]
  have e : ∀ (u : Bool) (m k b : Nat), b ≤ k → (if u = true then -((m * 2 ^ (k - b) : Nat) : Int) else ((m * 2 ^ (k - b) : Nat) : Int)) * 2 ^ b = (if u = true then -((m * 2 ^ k : Nat) : Int) else ((m * 2 ^ k : Nat) : Int)) := by
    intro u m k b h
    have h2 : m * 2 ^ (k - b) * 2 ^ b = m * 2 ^ k := by rw [Nat.mul_assoc, ← Nat.pow_add, Nat.sub_add_cancel h]
    have h3 : ((m * 2 ^ (k - b) : Nat) : Int) * 2 ^ b = ((m * 2 ^ k : Nat) : Int) := by rw [← h2]; push_cast; rfl
    cases u
    · simp only [Bool.false_eq_true, if_false]; exact h3
    · simp only [if_true]; rw [Int.neg_mul, h3]
  rw [e s m i _ (Nat.min_le_left _ _), e t n j _ (Nat.min_le_right _ _)]
/-- Two numbers that are no NaN compare as their keys do. -/
theorem order_ky (x y : Nat) (hx : ¬ isNaN x) (hy : ¬ isNaN y) : Ieee.double.order x y = some (compare (ky x) (ky y)) := by
  unfold isNaN at hx hy
  unfold Ieee.Format.order
  rw [read_eq, read_eq]
  by_cases h1 : x % 9223372036854775808 < 9218868437227405312
  · rw [if_pos h1]
    by_cases h2 : y % 9223372036854775808 < 9218868437227405312
    · rw [if_pos h2, order_num, ← cmp_sv]; rfl
    · rw [if_neg h2, if_pos (c := y % 9223372036854775808 = 9218868437227405312) (by omega)]
      simp only [Ieee.Datum.order]
      congr 1
      unfold ky
      cases negB x <;> cases negB y <;> simp only [if_true, if_false, Bool.false_eq_true]
      · rw [Int.compare_eq_lt.2]; omega
      · rw [Int.compare_eq_gt.2]; omega
      · rw [Int.compare_eq_lt.2]; omega
      · rw [Int.compare_eq_gt.2]; omega
  · rw [if_neg h1, if_pos (c := x % 9223372036854775808 = 9218868437227405312) (by omega)]
    by_cases h2 : y % 9223372036854775808 < 9218868437227405312
    · rw [if_pos h2]
      simp only [Ieee.Datum.order]
      congr 1
      unfold ky
      cases negB x <;> cases negB y <;> simp only [if_true, if_false, Bool.false_eq_true]
      · rw [Int.compare_eq_gt.2]; omega
      · rw [Int.compare_eq_gt.2]; omega
      · rw [Int.compare_eq_lt.2]; omega
      · rw [Int.compare_eq_lt.2]; omega
    · rw [if_neg h2, if_pos (c := y % 9223372036854775808 = 9218868437227405312) (by omega)]
      simp only [Ieee.Datum.order]
      congr 1
      unfold ky
      cases negB x <;> cases negB y <;> simp only [if_true, if_false, Bool.false_eq_true]
      · rw [Int.compare_eq_eq.2 (by omega)]; rfl
      · rw [Int.compare_eq_gt.2 (by omega)]; rfl
      · rw [Int.compare_eq_lt.2 (by omega)]; rfl
      · rw [Int.compare_eq_eq.2 (by omega)]; rfl
theorem order_nan (x y : Nat) (h : isNaN x ∨ isNaN y) : Ieee.double.order x y = none := by
  unfold isNaN at h
  unfold Ieee.Format.order
  rw [read_eq, read_eq]
  by_cases h1 : 9218868437227405312 < x % 9223372036854775808
  · rw [if_neg (by omega), if_neg (by omega)]; rfl
  · have h2 : 9218868437227405312 < y % 9223372036854775808 := by rcases h with h | h <;> omega
    rw [if_neg (c := y % 9223372036854775808 < 9218868437227405312) (by omega), if_neg (c := y % 9223372036854775808 = 9218868437227405312) (by omega)]
    by_cases h3 : x % 9223372036854775808 < 9218868437227405312
    · rw [if_pos h3]; rfl
    · rw [if_neg h3, if_pos (by omega)]; rfl
end Go.Proofs.YtpdjpjkieafnbaaDoor.Fo
set_option linter.unusedVariables false
set_option linter.unusedSimpArgs false
namespace Go.Proofs.YtpdjpjkieafnbaaDoor.Li
open Go.RowKit Lb Nr
/-- A row of bytes is all digits, or has a first byte that is none. -/
theorem kinds_of : ∀ l : List UInt8, allD l ∨ ∃ p, p < l.length ∧ (∀ i, i < p → isD (l.getD i 0) = true) ∧ isD (l.getD p 0) = false
  | [] => .inl (by intro b hb; simp at hb)
  | b :: l => by
    cases hb : isD b with
    | false => exact .inr ⟨0, by simp, fun i hi => by omega, hb⟩
    | true =>
      rcases kinds_of l with h | ⟨p, h1, h2, h3⟩
      · left
        intro x hx
        rcases List.mem_cons.1 hx with e | e
        · rw [e]; exact hb
        · exact h x e
      · refine .inr ⟨p + 1, by simp; omega, ?_, by simpa using h3⟩
        intro i hi
        cases i with
        | zero => exact hb
        | succ i => have := h2 i (by omega); simpa using this
theorem Read_bad8 (l : List UInt8) (p : Nat) (w : World) (hp : p < l.length) (hd : ∀ i, i < p → isD (l.getD i 0) = true) (hx : isD (l.getD p 0) = false) (hl : l.length ≤ 140737488355328) :
    Calls Tryd.prog 7 #[.string ⟨l.toArray⟩] w fun e w' => e = .returned (.tuple #[.slice none 0 0, .int .i64 10, .int .i64 (p : Nat)]) ∧ Keep w w' := by
  have hg : ∀ i, i < l.length → (l.map UInt8.toNat).getD i 0 = (l.getD i 0).toNat := by
    intro i hi
    simp [List.getD, hi]
  have h := Read_bad (l.map UInt8.toNat) p w (by
    intro x hx
    obtain ⟨b, -, rfl⟩ := List.mem_map.1 hx
    exact b.toNat_lt) (by rw [List.length_map]; exact hp) (by
    intro i hi
    rw [hg i (by omega)]
    have := isD_in (hd i hi)
    omega) (by
    rw [hg p hp]
    unfold isD at hx
    have := of_decide_eq_false hx
    omega) (by rw [List.length_map]; exact hl)
  rw [S8_mk] at h
  exact h
theorem Read_none8 (w : World) : Calls Tryd.prog 7 #[.string ⟨#[]⟩] w fun e w' => e = .returned (.tuple #[.slice none 0 0, .int .i64 10, .int .i64 0]) ∧ Keep w w' := by
  have h := Read_none w
  rw [show S8 [] = ⟨#[]⟩ from rfl] at h
  exact h
theorem Read_ok8 (l : List UInt8) (w : World) (hd : allD l) (h0 : l ≠ []) (hl : l.length ≤ 140737488355328) :
    Calls Tryd.prog 7 #[.string ⟨l.toArray⟩] w fun e w' => ∃ v, e = .returned (.tuple #[v, .int .i64 0, .int .i64 0]) ∧ (l.length ≤ 4095 → Lv w' v (nat l) 2001) ∧ Keep w w' := by
  by_cases hs : l.length ≤ 4095
  · refine (Read_lv l w hd h0 (by omega)).mono ?_
    rintro e w' ⟨v, rfl, hv, k⟩
    exact ⟨v, rfl, fun _ => hv, k⟩
  · have h := Read_any (l.map UInt8.toNat) w (by
      intro x hx
      obtain ⟨b, hb, rfl⟩ := List.mem_map.1 hx
      have := isD_in (hd b hb)
      omega) (by simpa using h0) (by rw [List.length_map]; omega)
    rw [S8_mk] at h
    refine h.mono ?_
    rintro e w' ⟨v, rfl, hv, k⟩
    exact ⟨v, rfl, fun h => absurd h hs, k⟩
theorem FR_nil {x e a : Nat} (h : FR [] x e a) : e = 20 := by
  rcases h with ⟨h, -⟩ | ⟨-, h⟩
  · simp at h
  · rcases h with ⟨h, -⟩ | ⟨h, -⟩ | ⟨h, -⟩ | ⟨h, -⟩ | ⟨-, -, -, -, -, h, -⟩
    · cases h
    · cases h
    · cases h
    · exact absurd h (by decide)
    · exact h
theorem lv_ten (w : World) : Lv (w.alloc (.cells #[.int .u32 10] 35)) (.slice (some ⟨w.heap.size, 0, none⟩) 1 1) 10 2 := by
  refine ⟨some ⟨w.heap.size, 0, none⟩, 1, [10], rfl, by simp, by simp, ?_, by intro x hx; simp at hx; omega, rfl⟩
  intro j hj
  have hj0 : j = 0 := by simp at hj; exact hj
  subst hj0
  refine ⟨w.heap.size, 0, rfl, ?_⟩
  rw [cell_of_row _ _ 0 _ 35 (0, 0) (heap_alloc_new w _)]
  rfl
/-- Ten to a power that is not negative: the power, or a limit's error. -/
theorem Pow_ten (u : Nat) (v : Value) (w : World) (h : Lv w v 10 2) : Calls Tryd.prog 9 #[v, .int .i64 (u : Int)] w fun e w' => ∃ (v' : Value) (E : Int), e = .returned (.tuple #[v', .int .i64 E]) ∧ (E = 0 → u ≤ 16384 ∧ Lv w' v' (10 ^ u) 2049) ∧ Keep w w' := by
  obtain ⟨a, c, l, rfl, p1, p2, p3, p4, p5⟩ := h
  have hlb : lenB l = 4 := by
    rw [lenB_sz p4, p5]
    rfl
  refine (Pow_any a c (u : Int) l w p1 (by omega) p3 p4).mono ?_
  rintro e w' ⟨a', c', l', rfl, q1, q2, q3, q4, q5, k⟩
  refine ⟨_, _, rfl, ?_, k⟩
  intro hE
  have hu : u ≤ 16384 := by
    unfold powE at hE
    rw [hlb] at hE
    by_cases c1 : (u : Int) < 0 ∨ 65536 < (u : Int)
    · rw [if_pos c1] at hE; omega
    · rw [if_neg c1] at hE
      by_cases c2 : 65536 < ((4 : Nat) : Int) * (u : Int)
      · rw [if_pos c2] at hE; omega
      · omega
  refine ⟨hu, ?_⟩
  have hV : powV l (u : Int) = 10 ^ u := by
    unfold powV
    rw [hlb, if_neg (by omega), if_neg (by omega), p5]
    rfl
  rw [hV] at q5
  obtain ⟨K, hK⟩ : ∃ K, K = 2049 := ⟨_, rfl⟩
  rw [← hK]
  refine ⟨a', c', l', rfl, q1, len_le_pow q4 K ?_, q2, q3, q5⟩
  rw [q5]
  have h1 : (10 : Nat) ^ u ≤ 16 ^ u := Nat.pow_le_pow_left (by omega) _
  have h2 : (16 : Nat) ^ u = 2 ^ (4 * u) := by rw [Nat.pow_mul]
  have h3 := pow_small (4 * u) (K - 1) (by clear h1 h2; omega)
  have h4 : 4294967296 ^ (K - 1) < 4294967296 ^ K := Nat.pow_lt_pow_right (by omega) (by omega)
  rw [h2] at h1
  exact Nat.lt_of_le_of_lt (Nat.le_trans h1 h3) h4
end Go.Proofs.YtpdjpjkieafnbaaDoor.Li
set_option linter.unusedVariables false
set_option linter.unusedSimpArgs false
namespace Go.Proofs.YtpdjpjkieafnbaaDoor.Li
open Go.RowKit Lb Nr
theorem NB.one {N D x y : Nat} (hD : 0 < D) (h : NB N D x) (g : NB N D y) : x = y := by
  rcases Nat.eq_zero_or_pos N with c | c
  · rw [h.1 c, g.1 c]
  · obtain ⟨E, hE⟩ := exE c hD
    rw [h.2 c E hE, g.2 c E hE]
theorem ord_half : FloatKind.f64.format.order 4602678819172646912 4602678819172646912 = some .eq := by
  refine Eq.trans (Fo.order_ky _ _ (by unfold Fo.isNaN; omega) (by unfold Fo.isNaN; omega)) ?_
  rw [Int.compare_eq_eq.2 rfl]
set_option maxRecDepth 100000 in
set_option maxHeartbeats 2000000 in
/-- What is no row of digits. -/
theorem quot_bad (l : List UInt8) (bh pw : Int) (w : World) (at_ : Nat) (hR : ∀ wx, Calls Tryd.prog 7 #[.string ⟨l.toArray⟩] wx fun e w' => e = .returned (.tuple #[.slice none 0 0, .int .i64 10, .int .i64 (at_ : Nat)]) ∧ Keep wx w') (hat : at_ < l.length ∨ l = []) :
    Calls Tryd.prog 3 #[.string ⟨l.toArray⟩, .int .i64 bh, .int .i64 pw] w fun e w' => e = .returned (.bool true) ∧ Keep w w' := by
  have hH := fun wx => Read_half wx
  have hF := fun wx => From_lv 12 wx (by omega)
  have hP := fun wx v hv => Print_from 12 (by omega) wx v hv
  have e12 : dD 12 = [49, 50] := by
    rw [dD_step (by omega), dD_small (by omega)]
    rfl
  rw [e12] at hP
  have hA := fun wx => Read_all l wx
  have hor := ord_half
  have hsz : (ByteArray.mk l.toArray).size = l.length := sz_mk l
  go_enter Tryd.func3, Tryd.ntmps3
  go_wp2_with fail
  refine (hH _).mono ?_
  rintro e w1 ⟨rfl, k1⟩
  go_wp2_with fail
  refine (hF _).mono ?_
  rintro e w2 ⟨v, rfl, hv, k2⟩
  go_wp2_with fail
  refine (hP _ v hv).mono ?_
  rintro e w3 ⟨rfl, k3⟩
  go_wp2_with fail
  refine (hR _).mono ?_
  rintro e w4 ⟨rfl, k4⟩
  go_wp2_with fail
  refine (hA _).mono ?_
  rintro r w5 ⟨x, e, a, rfl, hfr, k5⟩
  have KF : Hid (Keep w w5) := (((k1.trans k2).trans k3).trans k4).trans k5
  have hge : decide ((0 : Int) ≤ (a : Int)) = true := decide_eq_true (by omega)
  have hge2 : (0 : Int) ≤ (a : Int) := by omega
  rcases hat with hat | hat
  · have hlt : (at_ : Int) < (l.length : Int) := by omega
    have hltd : decide ((at_ : Int) < (l.length : Int)) = true := decide_eq_true hlt
    clear hfr
    by_cases he : e = 0
    · subst he
      go_wp2_with fail
      go_ret
      exact ⟨rfl, KF.out⟩
    · have hne : ((e : Int) != 0) = true := by simp; omega
      go_wp2_with fail
      go_ret
      exact ⟨rfl, KF.out⟩
  · subst hat
    have he := FR_nil hfr
    subst he
    clear hfr
    go_wp2_with fail
    go_ret
    exact ⟨rfl, KF.out⟩
end Go.Proofs.YtpdjpjkieafnbaaDoor.Li
set_option linter.unusedVariables false
set_option linter.unusedSimpArgs false
namespace Go.Proofs.YtpdjpjkieafnbaaDoor.Li
open Go.RowKit Lb Nr
/-- The digits with a point so many of them ahead of their end. -/
def qT0 (l : List UInt8) (b : Nat) : List UInt8 := if 0 < b then l.take (l.length - b) ++ 46 :: l.drop (l.length - b) else l
def qT (l : List UInt8) (b : Nat) (pw : Int) : List UInt8 := (qT0 l b ++ [101]) ++ nmT pw
theorem qT_txt (l : List UInt8) (b : Nat) (pw : Int) (hb : b < l.length) (ng : Bool) :
    (if ng then [45] else []) ++ qT l b pw = dtx ng (l.take (l.length - b)) (l.drop (l.length - b)) (ptx (decide (pw < 0)) (dD pw.natAbs)) := by
  have e1 : (if decide (pw < 0) = true then [45] else [] : List UInt8) = if pw < 0 then [45] else [] := by simp
  unfold qT qT0 dtx ptx nmT
  rw [e1]
  by_cases h : 0 < b
  · have hB : l.drop (l.length - b) ≠ [] := by
      intro c
      have := congrArg List.length c
      rw [List.length_drop] at this
      simp at this
      omega
    rw [if_pos h, if_neg hB]
    simp
  · have hb0 : b = 0 := by omega
    subst hb0
    rw [if_neg h]
    simp
theorem qT_len (l : List UInt8) (b : Nat) (pw : Int) : l.length ≤ (qT l b pw).length := by
  unfold qT qT0
  rw [List.length_append, List.length_append]
  split
  · rw [List.length_append, List.length_cons, List.length_take, List.length_drop]
    omega
  · omega
theorem qT0_len (l : List UInt8) (b : Nat) : (qT0 l b).length ≤ l.length + 1 := by
  unfold qT0
  split
  · rw [List.length_append, List.length_cons, List.length_take, List.length_drop]
    omega
  · omega
theorem nmT_len (z : Int) (h1 : -1073741824 ≤ z) (h2 : z ≤ 1073741824) : (nmT z).length ≤ 21 := by
  unfold nmT
  have := dD_len 19 z.natAbs (by show z.natAbs < 100000000000000000000; omega)
  rw [List.length_append]
  split <;> simp <;> omega
/-- What both readings say. -/
theorem qT_read (l : List UInt8) (b : Nat) (pw : Int) (hd : allD l) (hb : b < l.length) (h1 : -1048576 ≤ pw) (h2 : pw ≤ 1048576) (ng : Bool) (hl : (qT l b pw).length ≤ 4095) (w : World) :
    Calls Tryd.prog 4 #[.string ⟨((if ng then [45] else []) ++ qT l b pw).toArray⟩] w fun e w' =>
      ∃ x : Nat, e = .returned (.tuple #[.float .f64 (x + sg ng), .int .i64 0, .int .i64 0]) ∧ NB (nat l * 10 ^ (pw - (b : Int)).toNat) (10 ^ (-(pw - (b : Int))).toNat) x ∧ Keep w w' := by
  have hE := dD_d pw.natAbs _ (Nat.le_refl _)
  have hV : pwN (decide (pw < 0)) (dD pw.natAbs) = pw := by
    unfold pwN
    rw [dD_nat _ _ (Nat.le_refl _), Nat.min_eq_left (by unfold far; omega)]
    by_cases h : pw < 0
    · rw [if_pos (by simpa using h)]; omega
    · rw [if_neg (by simpa using h)]; omega
  have hA0 : l.take (l.length - b) ≠ [] := by
    intro c
    have := congrArg List.length c
    rw [List.length_take] at this
    simp at this
    omega
  have hL : ((if ng then [45] else []) ++ qT l b pw : List UInt8).length ≤ 4096 := by
    rw [List.length_append]
    cases ng <;> simp <;> omega
  rw [qT_txt l b pw hb ng] at hL ⊢
  have h := Read_txt ng (l.take (l.length - b)) (l.drop (l.length - b)) (ptx (decide (pw < 0)) (dD pw.natAbs)) pw (hd.take _) hA0 (hd.drop _) (.inr ⟨_, _, rfl, hE, dD_ne _, hV.symm⟩) hL w
  rw [List.take_append_drop, List.length_drop, show l.length - (l.length - b) = b by omega] at h
  exact h
end Go.Proofs.YtpdjpjkieafnbaaDoor.Li
