import Derived.Test.YtpdjpjkieafnbaaGreatDoorWH2
import Derived.Test.YtpdjpjkieafnbaaGreatDoorWE1
import Derived.Test.YtpdjpjkieafnbaaGreatDoorNW3
import Derived.Test.YtpdjpjkieafnbaaGreatDoorNI1
import Derived.Test.YtpdjpjkieafnbaaGreatDoorBC2
import Derived.Test.YtpdjpjkieafnbaaGreatDoorCards
import Derived.Test.YtpdjpjkieafnbaaGreatDoorTie
import Derived.Test.YtpdjpjkieafnbaaGreatDoorRows
import Derived.Test.YtpdjpjkieafnbaaGreatDoorChecked
import Derived.ProofKit
import Derived.OpenShut
import Derived.SizedLaws
import Derived.Deep.DeepHandedRow
import Derived.Lib.LaidTab
import Derived.Lib.TrailingZeros
import Derived.Deep.Slices
import Derived.Laws.Cover2
import Derived.Lib.AppendIntMem
set_option linter.unusedVariables false
set_option linter.unusedSimpArgs false
namespace Go.Proofs.YtpdjpjkieafnbaaGreatDoor.Li
open Go.RowKit Lb Nr
set_option maxRecDepth 100000 in
set_option maxHeartbeats 800000 in
theorem rShortest_nan (a b : Bool) (M : Nat) (E : Int) (x0 y0 u0 : Int) (w : World) : Calls Tryz.prog 22 #[.agg #[.bool a, .bool b, .bool true, .int .u64 (M : Int), .int .i64 E], .agg #[.int .i64 x0, .int .i64 y0, .int .i64 u0]] w fun e w' => e = .returned (.string ⟨([110, 97, 110] : List UInt8).toArray⟩) ∧ Keep w w' := by
  obtain ⟨W, hW, B1, B2, kW⟩ := boxes w a b true M E x0 y0 u0
  have hSp := special_nan a b M E W
  go_enter Tryz.func22, Tryz.ntmps22
  go_wp2_with fail
  rw [← hW]
  clear hW
  refine hSp.mono ?_
  rintro e w1 ⟨rfl, k1⟩
  obtain ⟨c0, c1, c2, c3, c4⟩ := (B1.keep k1).cells
  clear hSp
  go_wp2_with fail
  go_ret
  exact ⟨rfl, kW.trans k1⟩
set_option maxRecDepth 100000 in
set_option maxHeartbeats 800000 in
theorem rShortest_inf (a : Bool) (M : Nat) (E : Int) (x0 y0 u0 : Int) (w : World) : Calls Tryz.prog 22 #[.agg #[.bool a, .bool true, .bool false, .int .u64 (M : Int), .int .i64 E], .agg #[.int .i64 x0, .int .i64 y0, .int .i64 u0]] w fun e w' => e = .returned (.string ⟨(sgN a ++ [105, 110, 102]).toArray⟩) ∧ Keep w w' := by
  obtain ⟨W, hW, B1, B2, kW⟩ := boxes w a true false M E x0 y0 u0
  have hSp := special_inf a M E W
  go_enter Tryz.func22, Tryz.ntmps22
  go_wp2_with fail
  rw [← hW]
  clear hW
  refine hSp.mono ?_
  rintro e w1 ⟨rfl, k1⟩
  obtain ⟨c0, c1, c2, c3, c4⟩ := (B1.keep k1).cells
  clear hSp
  go_wp2_with fail
  go_ret
  exact ⟨rfl, kW.trans k1⟩
set_option maxRecDepth 100000 in
set_option maxHeartbeats 800000 in
theorem rShortest_zero (a : Bool) (E : Int) (x0 y0 u0 : Int) (w : World) : Calls Tryz.prog 22 #[.agg #[.bool a, .bool false, .bool false, .int .u64 ((0 : Nat) : Int), .int .i64 E], .agg #[.int .i64 x0, .int .i64 y0, .int .i64 u0]] w fun e w' => e = .returned (.string ⟨(sgN a ++ [48]).toArray⟩) ∧ Keep w w' := by
  obtain ⟨W, hW, B1, B2, kW⟩ := boxes w a false false 0 E x0 y0 u0
  have hSp := special_zero a E W
  have hz0 : ((0 : Nat) : Int) = 0 := rfl
  rw [hz0] at hW
  go_enter Tryz.func22, Tryz.ntmps22
  go_wp2_with fail
  rw [← hW]
  clear hW
  refine hSp.mono ?_
  rintro e w1 ⟨rfl, k1⟩
  obtain ⟨c0, c1, c2, c3, c4⟩ := (B1.keep k1).cells
  clear hSp
  go_wp2_with fail
  go_ret
  exact ⟨rfl, kW.trans k1⟩
set_option maxRecDepth 100000 in
set_option maxHeartbeats 800000 in
theorem rExact_nan (a b : Bool) (M : Nat) (E : Int) (w : World) : Calls Tryz.prog 24 #[.agg #[.bool a, .bool b, .bool true, .int .u64 (M : Int), .int .i64 E]] w fun e w' => e = .returned (.string ⟨([110, 97, 110] : List UInt8).toArray⟩) ∧ Keep w w' := by
  obtain ⟨W, hW, B1, kW⟩ := Nb.box w a b true M E
  have hSp := special_nan a b M E W
  go_enter Tryz.func24, Tryz.ntmps24
  go_wp2_with fail
  rw [← hW]
  clear hW
  refine hSp.mono ?_
  rintro e w1 ⟨rfl, k1⟩
  obtain ⟨c0, c1, c2, c3, c4⟩ := (B1.keep k1).cells
  clear hSp
  go_wp2_with fail
  go_ret
  exact ⟨rfl, kW.trans k1⟩
set_option maxRecDepth 100000 in
set_option maxHeartbeats 800000 in
theorem rExact_inf (a : Bool) (M : Nat) (E : Int) (w : World) : Calls Tryz.prog 24 #[.agg #[.bool a, .bool true, .bool false, .int .u64 (M : Int), .int .i64 E]] w fun e w' => e = .returned (.string ⟨(sgN a ++ [105, 110, 102]).toArray⟩) ∧ Keep w w' := by
  obtain ⟨W, hW, B1, kW⟩ := Nb.box w a true false M E
  have hSp := special_inf a M E W
  go_enter Tryz.func24, Tryz.ntmps24
  go_wp2_with fail
  rw [← hW]
  clear hW
  refine hSp.mono ?_
  rintro e w1 ⟨rfl, k1⟩
  obtain ⟨c0, c1, c2, c3, c4⟩ := (B1.keep k1).cells
  clear hSp
  go_wp2_with fail
  go_ret
  exact ⟨rfl, kW.trans k1⟩
set_option maxRecDepth 100000 in
set_option maxHeartbeats 800000 in
theorem rExact_zero (a : Bool) (E : Int) (w : World) : Calls Tryz.prog 24 #[.agg #[.bool a, .bool false, .bool false, .int .u64 ((0 : Nat) : Int), .int .i64 E]] w fun e w' => e = .returned (.string ⟨(sgN a ++ [48]).toArray⟩) ∧ Keep w w' := by
  obtain ⟨W, hW, B1, kW⟩ := Nb.box w a false false 0 E
  have hSp := special_zero a E W
  have hz0 : ((0 : Nat) : Int) = 0 := rfl
  rw [hz0] at hW
  go_enter Tryz.func24, Tryz.ntmps24
  go_wp2_with fail
  rw [← hW]
  clear hW
  refine hSp.mono ?_
  rintro e w1 ⟨rfl, k1⟩
  obtain ⟨c0, c1, c2, c3, c4⟩ := (B1.keep k1).cells
  clear hSp
  go_wp2_with fail
  go_ret
  exact ⟨rfl, kW.trans k1⟩
set_option maxRecDepth 100000 in
set_option maxHeartbeats 800000 in
theorem rHex_nan (a b : Bool) (M : Nat) (E : Int) (w : World) : Calls Tryz.prog 26 #[.agg #[.bool a, .bool b, .bool true, .int .u64 (M : Int), .int .i64 E]] w fun e w' => e = .returned (.string ⟨([110, 97, 110] : List UInt8).toArray⟩) ∧ Keep w w' := by
  obtain ⟨W, hW, B1, kW⟩ := Nb.box w a b true M E
  have hSp := special_nan a b M E W
  go_enter Tryz.func26, Tryz.ntmps26
  go_wp2_with fail
  rw [← hW]
  clear hW
  refine hSp.mono ?_
  rintro e w1 ⟨rfl, k1⟩
  obtain ⟨c0, c1, c2, c3, c4⟩ := (B1.keep k1).cells
  clear hSp
  go_wp2_with fail
  go_ret
  exact ⟨rfl, kW.trans k1⟩
set_option maxRecDepth 100000 in
set_option maxHeartbeats 800000 in
theorem rHex_inf (a : Bool) (M : Nat) (E : Int) (w : World) : Calls Tryz.prog 26 #[.agg #[.bool a, .bool true, .bool false, .int .u64 (M : Int), .int .i64 E]] w fun e w' => e = .returned (.string ⟨(sgN a ++ [105, 110, 102]).toArray⟩) ∧ Keep w w' := by
  obtain ⟨W, hW, B1, kW⟩ := Nb.box w a true false M E
  have hSp := special_inf a M E W
  go_enter Tryz.func26, Tryz.ntmps26
  go_wp2_with fail
  rw [← hW]
  clear hW
  refine hSp.mono ?_
  rintro e w1 ⟨rfl, k1⟩
  obtain ⟨c0, c1, c2, c3, c4⟩ := (B1.keep k1).cells
  clear hSp
  go_wp2_with fail
  go_ret
  exact ⟨rfl, kW.trans k1⟩
set_option maxRecDepth 100000 in
set_option maxHeartbeats 800000 in
theorem rHex_zero (a : Bool) (E : Int) (w : World) : Calls Tryz.prog 26 #[.agg #[.bool a, .bool false, .bool false, .int .u64 ((0 : Nat) : Int), .int .i64 E]] w fun e w' => e = .returned (.string ⟨(sgN a ++ [48, 120, 48, 112, 43, 48]).toArray⟩) ∧ Keep w w' := by
  obtain ⟨W, hW, B1, kW⟩ := Nb.box w a false false 0 E
  have hSp := special_zero a E W
  have hz0 : ((0 : Nat) : Int) = 0 := rfl
  rw [hz0] at hW
  cases a
  all_goals
    go_enter Tryz.func26, Tryz.ntmps26
    go_wp2_with fail
    rw [← hW]
    clear hW
    refine hSp.mono ?_
    rintro e w1 ⟨rfl, k1⟩
    obtain ⟨c0, c1, c2, c3, c4⟩ := (B1.keep k1).cells
    clear hSp
    unfold sgN
    go_wp2_with fail
    go_ret
    exact ⟨rfl, kW.trans k1⟩
theorem tn_in {m : Nat} {e : Int} (h0 : 0 < m) (hm : m < 9007199254740992) (he : -1074 ≤ e ∧ e ≤ 971) : -370 ≤ tnF m e ∧ tnF m e ≤ 370 := by
  obtain ⟨-, -, b3, -⟩ := bl_bounds h0 (by omega)
  have b4 := bl_53 h0 hm
  unfold tnF
  generalize Lib.bitLen m = q at *
  omega
theorem RN_pos {a b : Nat} (ha : 0 < a) (hb : 0 < b) : 0 < RN a b := by
  unfold RN
  rw [if_neg (by omega)]
  exact Nat.div_pos (Nat.le_of_dvd ha (Nat.gcd_dvd_left a b)) (Nat.gcd_pos_of_pos_left _ ha)
theorem RD_pos {a b : Nat} (hb : 0 < b) : 0 < RD a b := by
  unfold RD
  rw [if_neg (by omega)]
  exact Nat.div_pos (Nat.le_of_dvd hb (Nat.gcd_dvd_right a b)) (Nat.gcd_pos_of_pos_right _ hb)
theorem two_up (n : Nat) : ∀ q, n ≤ 32 * q → 2 ^ n ≤ 4294967296 ^ q := by
  intro q hq
  refine Nat.le_trans (Nat.pow_le_pow_right (by omega) hq) ?_
  rw [Nat.pow_mul]
  exact Nat.pow_le_pow_left (by decide) q
theorem words_num {m n b L : Nat} (hm : m < 9007199254740992) (hn : n ≤ 1000) (hL : L ≤ 800) (hb : 0 < b) : RN (m * 2 ^ n) b * 10 ^ L < 4294967296 ^ 200 := by
  have h1 : RN (m * 2 ^ n) b ≤ m * 2 ^ n := by
    unfold RN
    split
    · exact Nat.zero_le _
    · exact Nat.div_le_self _ _
  have h2 : m * 2 ^ n ≤ 4294967296 ^ 2 * 4294967296 ^ 32 := Nat.mul_le_mul (by rw [show (4294967296 : Nat) ^ 2 = 18446744073709551616 by decide]; omega) (two_up n 32 (by omega))
  have h3 : 10 ^ L ≤ 4294967296 ^ 100 := ten_up L 100 (by omega)
  have h4 := Nat.mul_le_mul (Nat.le_trans h1 h2) h3
  refine Nat.lt_of_le_of_lt h4 ?_
  rw [← Nat.pow_add, ← Nat.pow_add]
  exact Nat.pow_lt_pow_right (by omega) (by omega)
theorem words_den {a n L : Nat} (hn : n ≤ 1074) (hL : L ≤ 800) (hb : 0 < 2 ^ n) : RD a (2 ^ n) * 10 ^ L < 4294967296 ^ 200 := by
  have h1 : RD a (2 ^ n) ≤ 2 ^ n := by
    unfold RD
    split
    · exact Nat.zero_le _
    · exact Nat.div_le_self _ _
  have h2 : 2 ^ n ≤ 4294967296 ^ 34 := two_up n 34 (by omega)
  have h3 : 10 ^ L ≤ 4294967296 ^ 100 := ten_up L 100 (by omega)
  have h4 := Nat.mul_le_mul (Nat.le_trans h1 h2) h3
  refine Nat.lt_of_le_of_lt h4 ?_
  rw [← Nat.pow_add]
  exact Nat.pow_lt_pow_right (by omega) (by omega)
end Go.Proofs.YtpdjpjkieafnbaaGreatDoor.Li
set_option linter.unusedVariables false
set_option linter.unusedSimpArgs false
namespace Go.Proofs.YtpdjpjkieafnbaaGreatDoor.Li
open Go.RowKit Lb Nr
theorem kind_sub {b : Nat} (hk : pKind b = 1 ∨ pKind b = 2) : (pM b < 4503599627370496 → pE b = -1074) ∧ (if pField b = 2047 then (0 : Int) else if 0 < pField b then -1074 + (pField b : Int) - 1 else -1074) = pE b ∧ decide (pKind b = 3) = false ∧ decide (pKind b = 4) = false := by
  refine ⟨?_, ?_, decide_eq_false (by omega), decide_eq_false (by omega)⟩
  all_goals
    unfold pKind at hk
    unfold pE
    by_cases c1 : pField b = 2047
    · rw [if_pos c1] at hk
      split at hk <;> omega
    · rw [if_neg c1] at hk
      rw [if_neg c1]
      by_cases c2 : 0 < pField b
      · rw [if_pos c2]
        have h2 : pField b < 2048 := Nat.mod_lt _ (by omega)
        first
          | (rw [if_neg c1, if_pos c2]; done)
          | (intro h; unfold pM at h; rw [if_pos ⟨c2, by omega⟩] at h; omega)
      · rw [if_neg c2] at hk
        rw [if_neg c2]
        by_cases c3 : 0 < pKept b
        · rw [if_pos c3]
          first
            | (rw [if_neg c1, if_neg c2]; done)
            | (intro _; rfl)
        · rw [if_neg c3] at hk
          omega
theorem dch {b : Nat} (hk : pKind b = 1 ∨ pKind b = 2) : DcH (RN (pM b * 2 ^ (pE b).toNat) (2 ^ (-(pE b)).toNat)) (RD (pM b * 2 ^ (pE b).toNat) (2 ^ (-(pE b)).toNat)) (4 * pM b * sNum (pE b) (tnF (pM b) (pE b))) (sDen (pE b) (tnF (pM b) (pE b))) (bLow (pM b) (pE b) (tnF (pM b) (pE b))) (bHi (pM b) (pE b) (tnF (pM b) (pE b))) (fwD (pM b) (pE b)) (fwK (pM b) (pE b)) (tnF (pM b) (pE b)) := by
  obtain ⟨p1, p2, p3, p4⟩ := kind_parts hk
  obtain ⟨s1, -⟩ := kind_sub hk
  obtain ⟨a1, a2, a3, a4, a5, a6, a7⟩ := fw_main p1 p2 ⟨p3, p4⟩
  obtain ⟨-, v1, v2⟩ := scale_ok p1 p2 ⟨p3, p4⟩
  have hB : 0 < 2 ^ (-(pE b)).toNat := Nat.two_pow_pos _
  have hA : 0 < pM b * 2 ^ (pE b).toNat := Nat.mul_pos p1 (Nat.two_pow_pos _)
  have hx := rat_cross (a := pM b * 2 ^ (pE b).toNat) hB
  refine ⟨RN_pos hA hB, RD_pos hB, sDen_pos _ _, fun k => cross_amt hx k, v1, v2, tn_in p1 (by omega) (by omega), a4, a5, a3, unK_le _ _ _, fun P h1 h2 => ?_⟩
  exact dec_ok p1 p2 ⟨p3, p4⟩ (fun q => s1 (by omega)) h1 h2
theorem rDecimal_any {b : Nat} (a : Bool) (hb : b < 18446744073709551616) (hk : pKind b = 1 ∨ pKind b = 2) (w : World) : Calls Tryz.prog 59 #[.agg #[.bool a, .bool false, .bool false, .int .u64 (pM b : Int), .int .i64 (pE b)], .agg #[.int .i64 53, .int .i64 (-1074), .int .i64 971]] w fun e w' => e = .returned (.tuple #[.string ⟨(dD (fwD (pM b) (pE b))).toArray⟩, .int .i64 ((fwK (pM b) (pE b) : Int) - tnF (pM b) (pE b))]) ∧ Keep w w' := by
  obtain ⟨p1, p2, p3, p4⟩ := kind_parts hk
  obtain ⟨L, hL⟩ : ∃ L, L = 800 := ⟨_, rfl⟩
  obtain ⟨y, hy⟩ : ∃ y, b % 9223372036854775808 = y := ⟨_, rfl⟩
  have hf := kind_field hk
  have hy2 : y < 9218868437227405312 := by unfold pField at hf; omega
  have hby := amount_of hb
  rw [hy] at hby
  obtain ⟨e1, e2, e3⟩ := amount_partsB y (pNeg b) (by omega)
  rw [← hby] at e1 e2 e3
  have hk' := hk
  rw [e3] at hk'
  have hnb := near_bk hy2 hk'
  rw [← e1, ← e2] at hnb
  have hB : 0 < 2 ^ (-(pE b)).toNat := Nat.two_pow_pos _
  exact Decimal_gen a false false (pM b) (pE b) _ _ _ _ _ _ _ _ _ _ _ _ L w (dch hk) (by omega) (words_num (by omega) (by omega) (by omega) hB) (words_den (by omega) (by omega) hB) (fun wx => Ratio_some a false false (pM b) (pE b) wx p1 (by omega) (by omega)) hnb
/-- The text of any number. -/
def sAll (b : Nat) : List UInt8 := if pKind b = 1 ∨ pKind b = 2 then sgS (pNeg b) (shT (pM b) (pE b)) else exS b
theorem kind_zero {b : Nat} (h : pKind b = 0) : pM b = 0 := by
  unfold pKind at h
  unfold pM
  by_cases c1 : pField b = 2047
  · rw [if_pos c1] at h
    split at h <;> omega
  · rw [if_neg c1] at h
    by_cases c2 : 0 < pField b
    · rw [if_pos c2] at h; omega
    · rw [if_neg c2] at h
      rw [if_neg (fun q => c2 q.1)]
      by_cases c3 : 0 < pKept b
      · rw [if_pos c3] at h; omega
      · omega
set_option maxRecDepth 100000 in
theorem rShortest_all (b : Nat) (hb : b < 18446744073709551616) (w : World) : Calls Tryz.prog 22 #[ofV b, .agg #[.int .i64 53, .int .i64 (-1074), .int .i64 971]] w fun e w' => e = .returned (.string ⟨(sAll b).toArray⟩) ∧ Keep w w' := by
  unfold sAll ofV
  by_cases hk : pKind b = 1 ∨ pKind b = 2
  · obtain ⟨p1, p2, p3, p4⟩ := kind_parts hk
    obtain ⟨-, s2, s3, s4⟩ := kind_sub hk
    obtain ⟨-, d2⟩ := fwD_lt p1 p2 ⟨p3, p4⟩
    have d1 : 1 ≤ (dD (fwD (pM b) (pE b))).length := List.length_pos_iff.2 (dD_ne _)
    have tn := tn_in (m := pM b) (e := pE b) p1 (by omega) (by omega)
    have hK18 : fwK (pM b) (pE b) ≤ 18 := unK_le _ _ _
    rw [if_pos hk, s2, s3, s4]
    exact rShortest_gen (pNeg b) (pM b) (pE b) _ _ _ _ _ w p1 ⟨d1, d2⟩ (by omega) (fun wx => rDecimal_any (pNeg b) hb hk wx)
  · rw [if_neg hk]
    have hin := pKind_in b
    unfold exS
    by_cases c4 : pKind b = 4
    · rw [if_pos c4, decide_eq_true c4]
      exact rShortest_nan _ _ _ _ _ _ _ w
    · rw [if_neg c4, decide_eq_false c4]
      by_cases c3 : pKind b = 3
      · rw [decide_eq_true c3, c3]
        exact rShortest_inf _ _ _ _ _ _ w
      · have c0 : pKind b = 0 := by omega
        rw [decide_eq_false c3, c0, kind_zero c0]
        exact rShortest_zero _ _ _ _ _ w
set_option maxRecDepth 100000 in
theorem Shortest_all (b : Nat) (hb : b < 18446744073709551616) (w : World) (hT : ∀ wx, Keep w wx → Lib.TabIs Tryz.prog wx "internal/strconv.uint64pow10" .u64 Lib.pow10Tab) : Calls Tryz.prog 21 #[.float .f64 b] w fun e w' => e = .returned (.string ⟨(sAll b).toArray⟩) ∧ Keep w w' := by
  unfold sAll
  have hin := pKind_in b
  by_cases hk : pKind b = 1 ∨ pKind b = 2
  · rw [if_pos hk]
    exact Shortest_num b w hb hk hT
  · rw [if_neg hk]
    exact Shortest_named b w hb (by omega)
def eAll (b : Nat) : List UInt8 := if pKind b = 1 ∨ pKind b = 2 then sgS (pNeg b) (exR (pM b) (pE b)) else exS b
theorem Exact_fix (b : Nat) (hb : b < 18446744073709551616) (w : World) (hT : Bi.Tab w) : Calls Tryz.prog 23 #[.float .f64 b] w fun e w' => e = .returned (.string ⟨(eAll b).toArray⟩) ∧ Keep w w' := by
  unfold eAll
  have hin := pKind_in b
  by_cases hk : pKind b = 1 ∨ pKind b = 2
  · rw [if_pos hk]
    obtain ⟨p1, -, -, -⟩ := kind_parts hk
    refine (Exact_odd b hb hk p1 w hT).mono ?_
    rintro r w' ⟨m', e', j, h1, h2, -, h4, rfl, k⟩
    exact ⟨by rw [ex_same p1 h1 h2 h4], k⟩
  · rw [if_neg hk]
    exact Exact_named b hb (by omega) w
def hAll (b : Nat) : List UInt8 := if pKind b = 1 ∨ pKind b = 2 then sgS (pNeg b) (hxT (pM b) (pE b)) else hxS b
theorem Hex_fix (b : Nat) (hb : b < 18446744073709551616) (w : World) (hT : ∀ wx, Keep w wx → Bi.Tab wx) (hP : ∀ wx, Keep w wx → Lib.TabIs Tryz.prog wx "internal/strconv.uint64pow10" .u64 Lib.pow10Tab) : Calls Tryz.prog 25 #[.float .f64 b] w fun e w' => e = .returned (.string ⟨(hAll b).toArray⟩) ∧ Keep w w' := by
  unfold hAll
  have hin := pKind_in b
  by_cases hk : pKind b = 1 ∨ pKind b = 2
  · rw [if_pos hk]
    exact Hex_some b hb hk w hT hP
  · rw [if_neg hk]
    exact Hex_named b hb (by omega) w
set_option maxRecDepth 100000 in
theorem rExact_all (b : Nat) (w : World) : Calls Tryz.prog 24 #[ofV b] w fun e w' => e = .returned (.string ⟨(eAll b).toArray⟩) ∧ Keep w w' := by
  unfold eAll ofV
  by_cases hk : pKind b = 1 ∨ pKind b = 2
  · obtain ⟨p1, p2, p3, p4⟩ := kind_parts hk
    obtain ⟨-, s2, s3, s4⟩ := kind_sub hk
    rw [if_pos hk, s2, s3, s4]
    exact rExact_some (pNeg b) (pM b) (pE b) w p1 p2 ⟨p3, p4⟩
  · rw [if_neg hk]
    have hin := pKind_in b
    unfold exS
    by_cases c4 : pKind b = 4
    · rw [if_pos c4, decide_eq_true c4]
      exact rExact_nan _ _ _ _ w
    · rw [if_neg c4, decide_eq_false c4]
      by_cases c3 : pKind b = 3
      · rw [decide_eq_true c3, c3]
        exact rExact_inf _ _ _ w
      · have c0 : pKind b = 0 := by omega
        rw [decide_eq_false c3, c0, kind_zero c0]
        exact rExact_zero _ _ w
set_option maxRecDepth 100000 in
theorem rHex_all (b : Nat) (w : World) : Calls Tryz.prog 26 #[ofV b] w fun e w' => e = .returned (.string ⟨(hAll b).toArray⟩) ∧ Keep w w' := by
  unfold hAll ofV
  by_cases hk : pKind b = 1 ∨ pKind b = 2
  · obtain ⟨p1, p2, p3, p4⟩ := kind_parts hk
    obtain ⟨s1, s2, s3, s4⟩ := kind_sub hk
    rw [if_pos hk, s2, s3, s4]
    exact rHex_some (pNeg b) (pM b) (pE b) w p1 p2 ⟨p3, p4⟩ s1
  · rw [if_neg hk]
    have hin := pKind_in b
    unfold hxS
    by_cases c4 : pKind b = 4
    · rw [if_pos c4, decide_eq_true c4]
      exact rHex_nan _ _ _ _ w
    · rw [if_neg c4, decide_eq_false c4]
      by_cases c3 : pKind b = 3
      · have h0 : ¬ pKind b = 0 := by omega
        rw [decide_eq_true c3, if_neg h0]
        exact rHex_inf _ _ _ w
      · have c0 : pKind b = 0 := by omega
        rw [decide_eq_false c3, if_pos c0, kind_zero c0]
        exact rHex_zero _ _ w
end Go.Proofs.YtpdjpjkieafnbaaGreatDoor.Li
set_option linter.unusedVariables false
set_option linter.unusedSimpArgs false
namespace Go.Proofs.YtpdjpjkieafnbaaGreatDoor.Li.Nw
open Go.RowKit Lb Nr
theorem kind_sub {b : Nat} (hk : pKind b = 1 ∨ pKind b = 2) : (pM b < 8388608 → pE b = -149) ∧ (if pField b = 255 then (0 : Int) else if 0 < pField b then -149 + (pField b : Int) - 1 else -149) = pE b ∧ decide (pKind b = 3) = false ∧ decide (pKind b = 4) = false := by
  refine ⟨?_, ?_, decide_eq_false (by omega), decide_eq_false (by omega)⟩
  all_goals
    unfold pKind at hk
    unfold pE
    by_cases c1 : pField b = 255
    · rw [if_pos c1] at hk
      split at hk <;> omega
    · rw [if_neg c1] at hk
      rw [if_neg c1]
      by_cases c2 : 0 < pField b
      · rw [if_pos c2]
        have h2 : pField b < 256 := Nat.mod_lt _ (by omega)
        first
          | (rw [if_neg c1, if_pos c2]; done)
          | (intro h; unfold pM at h; rw [if_pos ⟨c2, by omega⟩] at h; omega)
      · rw [if_neg c2] at hk
        rw [if_neg c2]
        by_cases c3 : 0 < pKept b
        · rw [if_pos c3]
          first
            | (rw [if_neg c1, if_neg c2]; done)
            | (intro _; rfl)
        · rw [if_neg c3] at hk
          omega
theorem dch {b : Nat} (hk : pKind b = 1 ∨ pKind b = 2) : DcH (RN (pM b * 2 ^ (pE b).toNat) (2 ^ (-(pE b)).toNat)) (RD (pM b * 2 ^ (pE b).toNat) (2 ^ (-(pE b)).toNat)) (4 * pM b * sNum (pE b) (tnF (pM b) (pE b))) (sDen (pE b) (tnF (pM b) (pE b))) (bLow (pM b) (pE b) (tnF (pM b) (pE b))) (bHi (pM b) (pE b) (tnF (pM b) (pE b))) (fwD (pM b) (pE b)) (fwK (pM b) (pE b)) (tnF (pM b) (pE b)) := by
  obtain ⟨p1, p2, p3, p4⟩ := kind_parts hk
  obtain ⟨s1, -⟩ := kind_sub hk
  obtain ⟨a1, a2, a3, a4, a5, a6, a7⟩ := fw_main p1 p2 ⟨p3, p4⟩
  obtain ⟨-, v1, v2⟩ := scale_ok p1 p2 ⟨p3, p4⟩
  have hB : 0 < 2 ^ (-(pE b)).toNat := Nat.two_pow_pos _
  have hA : 0 < pM b * 2 ^ (pE b).toNat := Nat.mul_pos p1 (Nat.two_pow_pos _)
  have hx := rat_cross (a := pM b * 2 ^ (pE b).toNat) hB
  refine ⟨RN_pos hA hB, RD_pos hB, sDen_pos _ _, fun k => cross_amt hx k, v1, v2, tn_in p1 (by omega) (by omega), a4, a5, a3, unK_le _ _ _, fun P h1 h2 => ?_⟩
  exact dec_ok p1 p2 ⟨p3, p4⟩ (fun q => s1 (by omega)) h1 h2
theorem rDecimal_any {b : Nat} (a : Bool) (hb : b < 4294967296) (hk : pKind b = 1 ∨ pKind b = 2) (w : World) : Calls Tryz.prog 59 #[.agg #[.bool a, .bool false, .bool false, .int .u64 (pM b : Int), .int .i64 (pE b)], .agg #[.int .i64 24, .int .i64 (-149), .int .i64 104]] w fun e w' => e = .returned (.tuple #[.string ⟨(dD (fwD (pM b) (pE b))).toArray⟩, .int .i64 ((fwK (pM b) (pE b) : Int) - tnF (pM b) (pE b))]) ∧ Keep w w' := by
  obtain ⟨p1, p2, p3, p4⟩ := kind_parts hk
  obtain ⟨L, hL⟩ : ∃ L, L = 800 := ⟨_, rfl⟩
  obtain ⟨y, hy⟩ : ∃ y, b % 2147483648 = y := ⟨_, rfl⟩
  have hf := kind_field hk
  have hy2 : y < 2139095040 := by unfold pField at hf; omega
  have hby := amount_of hb
  rw [hy] at hby
  obtain ⟨e1, e2, e3⟩ := amount_parts y (pNeg b) (by omega)
  rw [← hby] at e1 e2 e3
  have hk' := hk
  rw [e3] at hk'
  have hnb := near_bk hy2 hk'
  rw [← e1, ← e2] at hnb
  have hB : 0 < 2 ^ (-(pE b)).toNat := Nat.two_pow_pos _
  exact Decimal_gen a false false (pM b) (pE b) _ _ _ _ _ _ _ _ _ _ _ _ L w (dch hk) (by omega) (words_num (by omega) (by omega) (by omega) hB) (words_den (by omega) (by omega) hB) (fun wx => Ratio_some a false false (pM b) (pE b) wx p1 (by omega) (by omega)) hnb
/-- The text of any number. -/
def sAll (b : Nat) : List UInt8 := if pKind b = 1 ∨ pKind b = 2 then sgS (pNeg b) (shT (pM b) (pE b)) else exS b
theorem kind_zero {b : Nat} (h : pKind b = 0) : pM b = 0 := by
  unfold pKind at h
  unfold pM
  by_cases c1 : pField b = 255
  · rw [if_pos c1] at h
    split at h <;> omega
  · rw [if_neg c1] at h
    by_cases c2 : 0 < pField b
    · rw [if_pos c2] at h; omega
    · rw [if_neg c2] at h
      rw [if_neg (fun q => c2 q.1)]
      by_cases c3 : 0 < pKept b
      · rw [if_pos c3] at h; omega
      · omega
set_option maxRecDepth 100000 in
theorem rShortest_all (b : Nat) (hb : b < 4294967296) (w : World) : Calls Tryz.prog 22 #[ofV b, .agg #[.int .i64 24, .int .i64 (-149), .int .i64 104]] w fun e w' => e = .returned (.string ⟨(sAll b).toArray⟩) ∧ Keep w w' := by
  unfold sAll ofV
  by_cases hk : pKind b = 1 ∨ pKind b = 2
  · obtain ⟨p1, p2, p3, p4⟩ := kind_parts hk
    obtain ⟨-, s2, s3, s4⟩ := kind_sub hk
    obtain ⟨-, d2⟩ := fwD_lt p1 p2 ⟨p3, p4⟩
    have d1 : 1 ≤ (dD (fwD (pM b) (pE b))).length := List.length_pos_iff.2 (dD_ne _)
    have tn := tn_in (m := pM b) (e := pE b) p1 (by omega) (by omega)
    have hK18 : fwK (pM b) (pE b) ≤ 18 := unK_le _ _ _
    rw [if_pos hk, s2, s3, s4]
    exact rShortest_gen (pNeg b) (pM b) (pE b) _ _ _ _ _ w p1 ⟨d1, d2⟩ (by omega) (fun wx => rDecimal_any (pNeg b) hb hk wx)
  · rw [if_neg hk]
    have hin := pKind_in b
    unfold exS
    by_cases c4 : pKind b = 4
    · rw [if_pos c4, decide_eq_true c4]
      exact rShortest_nan _ _ _ _ _ _ _ w
    · rw [if_neg c4, decide_eq_false c4]
      by_cases c3 : pKind b = 3
      · rw [decide_eq_true c3, c3]
        exact rShortest_inf _ _ _ _ _ _ w
      · have c0 : pKind b = 0 := by omega
        rw [decide_eq_false c3, c0, kind_zero c0]
        exact rShortest_zero _ _ _ _ _ w
set_option maxRecDepth 100000 in
theorem Shortest_all (b : Nat) (hb : b < 4294967296) (w : World) (hT : ∀ wx, Keep w wx → Lib.TabIs Tryz.prog wx "internal/strconv.uint64pow10" .u64 Lib.pow10Tab) :
    Calls Tryz.prog 27 #[.float .f32 b] w fun r w' => r = .returned (.string ⟨(sAll b).toArray⟩) ∧ Keep w w' := by
  have hin := pKind_in b
  have hbn := fun wx => binary32_any wx
  have h31 := fun wx => f32bitsB b wx
  have hs : ∀ wx, Keep w wx → Calls Tryz.prog 57 #[.agg #[.int .i64 23, .int .i64 255, .int .i64 (-149)], .int .u64 (b : Int)] wx fun e w' => e = .returned (.string ⟨(sAll b).toArray⟩) ∧ Keep wx w' := by
    intro wx kx
    unfold sAll
    by_cases hk : pKind b = 1 ∨ pKind b = 2
    · obtain ⟨p1, p2, p3, p4⟩ := kind_parts hk
      rw [if_pos hk]
      exact shortest_num b wx hb hk p1 p2 ⟨p3, p4⟩ (hT wx kx) (fun wy ky => hT wy (kx.trans ky))
    · rw [if_neg hk]
      exact shortest_named b wx hb (by omega)
  generalize sAll b = X at *
  have HS : Hid (∀ wx, Keep w wx → Calls Tryz.prog 57 #[.agg #[.int .i64 23, .int .i64 255, .int .i64 (-149)], .int .u64 (b : Int)] wx fun e w' => e = .returned (.string ⟨X.toArray⟩) ∧ Keep wx w') := hs
  clear hs hin hT
  go_enter Tryz.func27, Tryz.ntmps27
  go_wp2_with fail
  refine (hbn _).mono ?_
  rintro e w1 ⟨rfl, k1⟩
  go_wp2_with fail
  refine (HS.out _ k1).mono ?_
  rintro e w2 ⟨rfl, k2⟩
  go_wp2_with fail
  go_ret
  exact ⟨rfl, k1.trans k2⟩
end Go.Proofs.YtpdjpjkieafnbaaGreatDoor.Li.Nw
set_option linter.unusedVariables false
set_option linter.unusedSimpArgs false
namespace Go.Proofs.YtpdjpjkieafnbaaGreatDoor.Li
open Go.RowKit Lb Nr
/-- A region in whatever order whose operations read alone, its calls keeping what was there. -/
theorem region_keepW {id : Nat} {Q : Exit → Act → World → Prop} {a : Act} {w w2 : World} {l : List Oper} (k : Keep w2 w) (hm : Tryz.prog.follows .mixedOrders = true) (hB : Region.lexB .any l.toArray = true)
    (h : wpQuiet Tryz.prog l.toArray (Keep w2) (fun a' => ∀ w', Keep w2 w' → Q .normal a' w') l a) : (Code.region id l.toArray true).wp Tryz.prog Q a w :=
  wp_region_quiet (C := Keep w2) hm hB k.drew (by simpa using h)
set_option maxRecDepth 100000 in
set_option maxHeartbeats 4000000 in
/-- Every text that is written. -/
theorem law_writes (b u : Nat) (w : World) (hb : b < 18446744073709551616) (hu : u < 4294967296) (hT : ∀ wx, Keep w wx → Bi.Tab wx) (hP : ∀ wx, Keep w wx → Lib.TabIs Tryz.prog wx "internal/strconv.uint64pow10" .u64 Lib.pow10Tab) :
    Calls Tryz.prog 4 #[.int .u64 (b : Int), .int .u32 (u : Int)] w fun e w' => e = .returned (.bool true) ∧ Keep w w' := by
  have h19 := fun wx => f64from b wx
  have h28 := fun wx => f32from u wx
  have hWd := fun wx => Wide_any wx
  have hOf := fun wx => Of_any b hb wx
  have hNa := fun wx => Nw.Narrow_any wx
  have hOn := fun wx => Nw.Of_any u hu wx
  have t1 := fun wx (kx : Keep w wx) => Shortest_all b hb wx (fun wy ky => hP wy (kx.trans ky))
  have t2 := fun wx => rShortest_all b hb wx
  have t3 := fun wx (kx : Keep w wx) => Exact_fix b hb wx (hT wx kx)
  have t4 := fun wx => rExact_all b wx
  have t5 := fun wx (kx : Keep w wx) => Hex_fix b hb wx (fun wy ky => hT wy (kx.trans ky)) (fun wy ky => hP wy (kx.trans ky))
  have t6 := fun wx => rHex_all b wx
  have t7 := fun wx (kx : Keep w wx) => Nw.Shortest_all u hu wx (fun wy ky => hP wy (kx.trans ky))
  have t8 := fun wx => Nw.rShortest_all u hu wx
  obtain ⟨X1, h1⟩ : ∃ X, sAll b = X := ⟨_, rfl⟩
  obtain ⟨X2, h2⟩ : ∃ X, eAll b = X := ⟨_, rfl⟩
  obtain ⟨X3, h3⟩ : ∃ X, hAll b = X := ⟨_, rfl⟩
  obtain ⟨X4, h4⟩ : ∃ X, Nw.sAll u = X := ⟨_, rfl⟩
  rw [h1] at t1 t2
  rw [h2] at t3 t4
  rw [h3] at t5 t6
  rw [h4] at t7 t8
  clear h1 h2 h3 h4 hT hP
  unfold wideV at hWd
  unfold Nw.narrowV at hNa
  unfold ofV at hOf t2 t4 t6
  unfold Nw.ofV at hOn t8
  generalize pNeg b = a0 at *
  generalize decide (pKind b = 3) = a1 at *
  generalize decide (pKind b = 4) = a2 at *
  generalize pM b = a3 at *
  generalize (if pField b = 2047 then (0 : Int) else if 0 < pField b then -1074 + (pField b : Int) - 1 else -1074) = a4 at *
  generalize Nw.pNeg u = c0 at *
  generalize decide (Nw.pKind u = 3) = c1 at *
  generalize decide (Nw.pKind u = 4) = c2 at *
  generalize Nw.pM u = c3 at *
  generalize (if Nw.pField u = 255 then (0 : Int) else if 0 < Nw.pField u then -149 + (Nw.pField u : Int) - 1 else -149) = c4 at *
  go_enter Tryz.func4, Tryz.ntmps4
  go_wp2_with fail
  refine (hWd _).mono ?_
  rintro e w1 ⟨rfl, k1⟩
  go_wp2_with fail
  refine (hOf _).mono ?_
  rintro e w2 ⟨rfl, k2⟩
  go_wp2_with fail
  obtain ⟨W, hW, B1, kW⟩ := Nb.box w2 a0 a1 a2 a3 a4
  rw [← hW]
  clear hW
  have K0 : Keep w W := (k1.trans k2).trans kW
  obtain ⟨y0, y1, y2, y3, y4⟩ := B1.cells
  refine region_keepW (Keep.refl W) (by kernel_rfl) (by kernel_rfl) ?_
  repeat
    with_reducible refine wpQuiet_step ?_
    intro K hK
    go_simp
    first
      | (with_reducible refine hK _ ?_; clear hK K)
      | (with_reducible refine (if_neg ?_).mpr (hK _ ?_)
         · decide
         clear hK K)
      | (apply Exists.intro
         with_reducible refine ⟨fun wx hC => ?_, hK _ ?_⟩
         · first
             | with_reducible rfl
             | with_reducible exact (hWd wx).mono fun e w'' h => ⟨h.1, hC.trans h.2⟩
             | with_reducible exact (t1 wx (K0.trans hC)).mono fun e w'' h => ⟨h.1, hC.trans h.2⟩
             | with_reducible exact (t2 wx).mono fun e w'' h => ⟨h.1, hC.trans h.2⟩
             | with_reducible exact (t3 wx (K0.trans hC)).mono fun e w'' h => ⟨h.1, hC.trans h.2⟩
             | with_reducible exact (t4 wx).mono fun e w'' h => ⟨h.1, hC.trans h.2⟩
             | with_reducible exact (t5 wx (K0.trans hC)).mono fun e w'' h => ⟨h.1, hC.trans h.2⟩
             | with_reducible exact (t6 wx).mono fun e w'' h => ⟨h.1, hC.trans h.2⟩
             | (have z0 := hC.cell y0; have z1 := hC.cell y1; have z2 := hC.cell y2; have z3 := hC.cell y3; have z4 := hC.cell y4; go_simp; with_reducible rfl)
         clear hK K)
  with_reducible refine wpQuiet_nil ?_
  intro w3 k3
  go_simp
  go_wp2_with fail
  refine (hNa _).mono ?_
  rintro e w4 ⟨rfl, k4⟩
  go_wp2_with fail
  refine (hOn _).mono ?_
  rintro e w5 ⟨rfl, k5⟩
  go_wp2_with fail
  obtain ⟨W2, hW2, B2, kW2⟩ := Nb.box w5 c0 c1 c2 c3 c4
  rw [← hW2]
  clear hW2 y0 y1 y2 y3 y4
  have K2 : Keep w W2 := (((K0.trans k3).trans k4).trans k5).trans kW2
  obtain ⟨y0, y1, y2, y3, y4⟩ := B2.cells
  refine region_keepW (Keep.refl W2) (by kernel_rfl) (by kernel_rfl) ?_
  repeat
    with_reducible refine wpQuiet_step ?_
    intro K hK
    go_simp
    first
      | (with_reducible refine hK _ ?_; clear hK K)
      | (with_reducible refine (if_neg ?_).mpr (hK _ ?_)
         · decide
         clear hK K)
      | (apply Exists.intro
         with_reducible refine ⟨fun wx hC => ?_, hK _ ?_⟩
         · first
             | with_reducible rfl
             | with_reducible exact (hNa wx).mono fun e w'' h => ⟨h.1, hC.trans h.2⟩
             | with_reducible exact (t7 wx (K2.trans hC)).mono fun e w'' h => ⟨h.1, hC.trans h.2⟩
             | with_reducible exact (t8 wx).mono fun e w'' h => ⟨h.1, hC.trans h.2⟩
             | (have z0 := hC.cell y0; have z1 := hC.cell y1; have z2 := hC.cell y2; have z3 := hC.cell y3; have z4 := hC.cell y4; go_simp; with_reducible rfl)
         clear hK K)
  with_reducible refine wpQuiet_nil ?_
  intro w6 k6
  go_simp
  go_wp2_with fail
  go_ret
  exact ⟨rfl, K2.trans k6⟩
end Go.Proofs.YtpdjpjkieafnbaaGreatDoor.Li
set_option linter.unusedVariables false
set_option linter.unusedSimpArgs false
namespace Go.Proofs.YtpdjpjkieafnbaaGreatDoor
open Go.ChangeShapes Go.WideShapes Go.ChangeAt Go.RowKit
theorem own : ownKnob Tryz.prog.godebug = none := by kernel_rfl
theorem laidOut : laidOutB Tryz.prog = true := by kernel_rfl
/-- A world in which all five tables hold what the texts lay. -/
def lay5 (W : World) : World :=
  { W with heap := ((((W.heap.modify 2 fun o => match o with
      | .cells _ t frozen => .cells (Lib.pow10Tab.map (fun n : Int => Value.int .u64 n)).toArray t frozen
      | o => o).modify 6 fun o => match o with
      | .cells _ t frozen => .cells (Lib.deBruijn32tab.map (fun n : Nat => Value.int .u8 (n : Int))).toArray t frozen
      | o => o).modify 1 fun o => match o with
      | .cells _ t frozen => .cells (Lib.deBruijn64tab.map (fun n : Nat => Value.int .u8 (n : Int))).toArray t frozen
      | o => o).modify 4 fun o => match o with
      | .cells _ t frozen => .cells (Pinned.utf8FirstZ.map (fun n : Nat => Value.int .u8 (n : Int))).toArray t frozen
      | o => o).modify 5 fun o => match o with
      | .cells _ t frozen => .cells (([128, 191, 160, 191, 128, 159, 144, 191, 128, 143] ++ List.replicate 22 0).map (fun n : Nat => Value.int .u8 (n : Int))).toArray t frozen
      | o => o }
theorem u64_of {n : Int} (h : (Lit.int .u64 n).wf = true) : ∃ m : Nat, n = (m : Int) ∧ m < 18446744073709551616 := by
  simp only [Lit.wf, IntKind.min, IntKind.max, IntKind.signed, IntKind.bits, Bool.and_eq_true, decide_eq_true_eq] at h
  simp at h
  exact ⟨n.toNat, by omega, by omega⟩
theorem u32_of {n : Int} (h : (Lit.int .u32 n).wf = true) : ∃ m : Nat, n = (m : Int) ∧ m < 4294967296 := by
  simp only [Lit.wf, IntKind.min, IntKind.max, IntKind.signed, IntKind.bits, Bool.and_eq_true, decide_eq_true_eq] at h
  simp at h
  exact ⟨n.toNat, by omega, by omega⟩
theorem gtabP : Tryz.prog.globalNamed "internal/strconv.uint64pow10" = some 2 := by kernel_rfl
theorem ltabP : (Rows.laid_internal_strconv_uint64pow10 : DataW Unit) = Lib.tabData .u64 Lib.pow10Tab := by kernel_rfl
/-- The library's table of powers, from what the row says of it: it stands third. -/
theorem tabP_of {W : World} (h : laidMet Tryz.prog [("math/bits.deBruijn32tab", Rows.laid_math_bits_deBruijn32tab), ("math/bits.deBruijn64tab", Rows.laid_math_bits_deBruijn64tab), ("internal/strconv.uint64pow10", Rows.laid_internal_strconv_uint64pow10), ("unicode/utf8.acceptRanges", Rows.laid_unicode_utf8_acceptRanges), ("unicode/utf8.first", Rows.laid_unicode_utf8_first)] W) : ∀ wx, Li.Keep W wx → Lib.TabIs Tryz.prog wx "internal/strconv.uint64pow10" .u64 Lib.pow10Tab := by
  rw [ltabP] at h
  obtain ⟨ps, ⟨_, _, _, _, _, q, _, _, _, _, ⟨_, _, _, _, _, q2, _, _, _, _, ⟨g', t', cs, fuel, p', q', hg', ht', hvar, hd, _, _⟩, _⟩, _⟩, _⟩ := h
  obtain rfl := Option.some.inj (gtabP.symm.trans hg')
  have hty : (Tryz.prog.globals[2]?).map (·.type) = some 220 := by kernel_rfl
  obtain rfl := Option.some.inj (hty.symm.trans ht')
  have h1 : Lib.TabIs Tryz.prog W "internal/strconv.uint64pow10" .u64 Lib.pow10Tab := by
    unfold Lib.TabIs
    rw [hvar, ← Lib.cells_of_tab Tryz.underlying220 Tryz.underlying26 (by kernel_rfl) (by kernel_rfl) hd]
  exact Lib.tabBelow_of_tabIs h1
theorem gtab64 : Tryz.prog.globalNamed "math/bits.deBruijn64tab" = some 1 := by kernel_rfl
theorem ltab64 : (Rows.laid_math_bits_deBruijn64tab : DataW Unit) = Lib.tabData .u8 (Lib.deBruijn64tab.map fun n : Nat => (n : Int)) := by kernel_rfl
/-- The library's table, from what the row says of it: it stands second. -/
theorem tab64_of5 {W : World} (h : laidMet Tryz.prog [("math/bits.deBruijn32tab", Rows.laid_math_bits_deBruijn32tab), ("math/bits.deBruijn64tab", Rows.laid_math_bits_deBruijn64tab), ("internal/strconv.uint64pow10", Rows.laid_internal_strconv_uint64pow10), ("unicode/utf8.acceptRanges", Rows.laid_unicode_utf8_acceptRanges), ("unicode/utf8.first", Rows.laid_unicode_utf8_first)] W) : Bi.Tab W := by
  rw [ltab64] at h
  obtain ⟨ps, ⟨_, _, _, _, _, q, _, _, _, _, ⟨g', t', cs, fuel, p', q', hg', ht', hvar, hd, _, _⟩, _⟩, _⟩ := h
  obtain rfl := Option.some.inj (gtab64.symm.trans hg')
  have hty : (Tryz.prog.globals[1]?).map (·.type) = some 179 := by kernel_rfl
  obtain rfl := Option.some.inj (hty.symm.trans ht')
  have h1 : Lib.TabIs Tryz.prog W "math/bits.deBruijn64tab" .u8 (Lib.deBruijn64tab.map fun n : Nat => (n : Int)) := by
    unfold Lib.TabIs
    rw [hvar, ← Lib.cells_of_tab Tryz.underlying179 Tryz.underlying5 (by kernel_rfl) (by kernel_rfl) hd]
  intro j hj
  have := h1.cell gtab64 j (by simpa using hj)
  rw [this]
  simp [List.getD, hj]
end Go.Proofs.YtpdjpjkieafnbaaGreatDoor
set_option linter.unusedVariables false
set_option linter.unusedSimpArgs false
namespace Go.Proofs.YtpdjpjkieafnbaaGreatDoor.floatsWrites
open Go.ChangeShapes Go.WideShapes Go.ChangeAt Go.RowKit

set_option maxRecDepth 100000 in
theorem contract (H : Type) (enc : TypeId × Value → H) (W : World) (base : Nat) (args : Array Value) (ds gs : List (DataW H)) (before : List MemPlace)
    (hval : ∀ (j : Nat) t v, Tryz.f4.params[j]? = some t → args[j]? = some v → Value.okWide Tryz.prog W .any base t v)
    (hW : DataW.Whole enc Tryz.prog Tryz.f4.params.toList Rows.floatsWritesSpec.vars false W args.toList ds gs before)
    (hsz : (DataW.weightsEach Tryz.prog (Tryz.f4.params.toList ++ (OpenSpec.ofChange Rows.floatsWritesSpec).bare.plain.varTypes Tryz.prog) (ds ++ gs)).all (· ≤ reachBytes) = true)  (hlaid : laidMet Tryz.prog [("math/bits.deBruijn32tab", Rows.laid_math_bits_deBruijn32tab), ("math/bits.deBruijn64tab", Rows.laid_math_bits_deBruijn64tab), ("internal/strconv.uint64pow10", Rows.laid_internal_strconv_uint64pow10), ("unicode/utf8.acceptRanges", Rows.laid_unicode_utf8_acceptRanges), ("unicode/utf8.first", Rows.laid_unicode_utf8_first)] W) :
    Calls Tryz.prog 4 args W fun e W' => ∃ v, e = .returned v ∧ Rows.floatsWritesSpec.post enc Tryz.prog Tryz.f4 false true false false W args v W' := by
  have hW' := hW
  obtain ⟨p, q, hA0, hV, rfl, hfz, hnd⟩ := hW
  have hA : DataW.TrodAll enc Tryz.prog W 0 (fun _ => true) true Tryz.f4.params.toList args.toList ds p := hA0
  rw [Tryz.params4] at hA hval hsz
  obtain ⟨v0, vs0, d0, ds0, p0, q0, hargs, rfl, rfl, h0, r0⟩ := trodAll_cons hA
  obtain ⟨v1, vs1, d1, ds1, p1, q1, rfl, rfl, rfl, h1, r1⟩ := trodAll_cons r0
  obtain ⟨rfl, rfl, rfl⟩ := trodAll_nil r1
  obtain rfl : args = #[v0, v1] := by cases args; simp_all
  obtain ⟨rfl, rfl⟩ := trodVars_none hV
  obtain ⟨a0, rfl, rfl, rfl, w0⟩ := open_int Tryz.underlying26 (hval 0 26 v0 rfl rfl) h0
  obtain ⟨a1, rfl, rfl, rfl, w1⟩ := open_int Tryz.underlying40 (hval 1 40 v1 rfl rfl) h1
  clear hA0
  obtain ⟨b, rfl, hb⟩ := u64_of w0
  obtain ⟨u, rfl, hu⟩ := u32_of w1
  have hwalk := Li.law_writes b u W hb hu (fun wx kx => (tab64_of5 hlaid).keep kx) (tabP_of hlaid)
  refine hwalk.mono fun e W' ⟨he, bel⟩ => ?_
  subst he
  have bel' : Below W.heap.size W W' := bel
  exact ⟨_, rfl, _, _, _, [], _, [], hW', trodAll_mk1 (shut_bool Tryz.underlying4 _), (trodAll_cons_mk (shut_int Tryz.underlying26 w0) (trodAll_cons_mk (shut_int Tryz.underlying40 w1) trodAll_mk0)), rfl, bel'.frame _, fun h => by cases h⟩

/-- A WORLD FOR THE WITNESS: the settled one, the two tables holding what the program's text and the library's lay. -/
theorem start (os : Os) : ∃ w0 : World, w0.os = os ∧ (w0.forCall (fun _ _ => 0) ⟨#[], #[.int .u64 0, .int .u32 0], []⟩).variablesB Tryz.checked.prog = true ∧
    ((w0.forCall (fun _ _ => 0) ⟨#[], #[.int .u64 0, .int .u32 0], []⟩).heap.toList.drop Tryz.checked.prog.globals.size).take ((begin Tryz.checked.prog (fun _ _ => 0) default).world.heap.size - Tryz.checked.prog.globals.size) = (begin Tryz.checked.prog (fun _ _ => 0) default).world.heap.toList.drop Tryz.checked.prog.globals.size ∧
    Input.okWideB Tryz.checked.prog (w0.forCall (fun _ _ => 0) ⟨#[], #[.int .u64 0, .int .u32 0], []⟩) 4 ⟨#[], #[.int .u64 0, .int .u32 0], []⟩ = true ∧
    laidMet Tryz.prog Rows.floatsWritesRow.laid (w0.forCall (fun _ _ => 0) ⟨#[], #[.int .u64 0, .int .u32 0], []⟩).memory ∧
    ∀ (H : Type) (enc : TypeId × Value → H), DataW.whole enc Tryz.prog (w0.forCall (fun _ _ => 0) ⟨#[], #[.int .u64 0, .int .u32 0], []⟩).memory Tryz.f4.params.toList Rows.floatsWritesSpec.vars false (#[.int .u64 0, .int .u32 0] : Array Value).toList 8 = some ([.lit (.int .u64 0), .lit (.int .u32 0)], [], []) :=
  ⟨lay5 (World.holding Tryz.prog os ⟨#[], #[], []⟩), rfl, by kernel_rfl, by kernel_rfl, by kernel_rfl, laidMet_of_run' 8 (by kernel_rfl) (by kernel_rfl), fun _ _ => by kernel_rfl⟩

set_option maxRecDepth 100000 in
theorem lifted (os : Os) (started : os.Started) (H : Type) (enc : TypeId × Value → H) (F : Stop.Interp) :
    ReturnsInHanded {} Tryz.checked os 4 .any ((OpenSpec.ofChange Rows.floatsWritesSpec).preRow enc Tryz.prog Tryz.f4 Rows.floatsWritesRow.domain false Rows.floatsWritesRow.laid) (((OpenSpec.ofChange Rows.floatsWritesSpec).at F).post enc Tryz.prog Tryz.f4 false true false false) := by
  obtain ⟨w0, h1, h2, h3, h4, h5, h6⟩ := start os
  refine returnsInHanded_of_row (C := Tryz.checked) (s := (OpenSpec.ofChange Rows.floatsWritesSpec)) own started (by kernel_rfl) Tryz.func4
    (witness_row_at (enc := enc) (C := Tryz.checked) false w0 #[.int .u64 0, .int .u32 0] h1 h2 h3 h4
      (OpenSpec.preRow_of_cond 8 (h6 H enc) (by kernel_rfl) (fun k hk => by cases hk) (by kernel_rfl) h5)) ?_
  intro W base args ds gs before hval hW _ _ hsz hlaid _ _
  exact contract H enc W base args ds gs before hval hW hsz hlaid

theorem said : Rows.FloatsWritesSaid :=
  OpenClaim.holds_of_cond 4 Tryz.f4 rfl rfl rfl rfl rfl rfl rfl ⟨rfl, rfl, rfl, rfl, rfl⟩ rfl rfl rfl rfl rfl (by kernel_rfl) Tryz.func4 (by kernel_rfl)
    (of_decide_eq_true (by kernel_rfl)) (by unfold Func.isWrapper; first | (rw [if_pos (by decide +kernel)]; kernel_rfl) | (rw [if_neg (by decide +kernel)]; exact ⟨rfl, rfl⟩))
    (fun os started H enc _ F => by rw [OpenClaim.pre_eq_preRow]; exact lifted os started H enc F)

/-- No parameter wants a stand-in; the program's own looks are off: what the card asks. -/
theorem plain (f : FuncId) (fn : Func) (hf : Tryz.pinned.checked.prog.funcNamed "thicket/thicketlaw02.FloatsWrites" = some f) (hfn : Tryz.pinned.checked.prog.funcs[f]? = some fn) :
    false = Tryz.pinned.checked.prog.looks [] ∧ ∀ (j : Nat) t, fn.params[j]? = some t → Tryz.pinned.checked.prog.wantsStandIn t = false := by
  obtain rfl : f = 4 := Option.some.inj ((show Tryz.prog.funcNamed "thicket/thicketlaw02.FloatsWrites" = some 4 by kernel_rfl).symm.trans hf) |>.symm
  obtain rfl : fn = Tryz.f4 := (Option.some.inj (Tryz.func4.symm.trans hfn)).symm
  refine ⟨by kernel_rfl, fun j t ht => ?_⟩
  rw [Tryz.params4] at ht
  have hm : t ∈ [26, 40] := by
    have := Array.mem_of_getElem? ht
    simp at this ⊢
    grind
  have hall : ([26, 40].all fun u => !Tryz.prog.wantsStandIn u) = true := by kernel_rfl
  exact (show Tryz.prog.wantsStandIn t = false by simpa using List.all_eq_true.1 hall t hm)

/-- THE CARD. -/
theorem card : Rows.FloatsWritesCardSaid :=
  Claim7.holds_tied_plain_at .later [] _ _ _ _ said (fun _ h => by cases h) (by kernel_rfl) (fun _ h => by cases h) floatsWrites_row_tie rfl ⟨rfl, rfl⟩ (by kernel_rfl) rfl plain (by kernel_rfl)
end Go.Proofs.YtpdjpjkieafnbaaGreatDoor.floatsWrites
namespace Go.Proofs.YtpdjpjkieafnbaaGreatDoor
theorem floatsWrites_card : Rows.FloatsWritesCardSaid := floatsWrites.card
#print axioms floatsWrites_card
end Go.Proofs.YtpdjpjkieafnbaaGreatDoor
