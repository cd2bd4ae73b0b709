import Derived.Test.YtpdjpjkieafnbaaGreatDoorFFM
import Derived.Test.YtpdjpjkieafnbaaGreatDoorLE7
import Derived.Test.YtpdjpjkieafnbaaGreatDoorLE3
import Derived.Test.YtpdjpjkieafnbaaGreatDoorLD6
import Derived.Test.YtpdjpjkieafnbaaGreatDoorLC6
import Derived.Test.YtpdjpjkieafnbaaGreatDoorOW
import Derived.Test.YtpdjpjkieafnbaaGreatDoorR4
import Derived.Test.YtpdjpjkieafnbaaGreatDoorR12
import Derived.Test.YtpdjpjkieafnbaaGreatDoorShelf
import Derived.Deep.CutRange
import Derived.Test.YtpdjpjkieafnbaaGreatDoorO3
import Derived.Test.YtpdjpjkieafnbaaGreatDoorH1
import Derived.Test.YtpdjpjkieafnbaaGreatDoorQQ3
set_option linter.unusedVariables false
set_option linter.unusedSimpArgs false
namespace Go.Proofs.YtpdjpjkieafnbaaGreatDoor
/-- A number's digits. -/
def dD (n : Nat) : List UInt8 := if h : n < 10 then [UInt8.ofNat (48 + n)] else dD (n / 10) ++ [UInt8.ofNat (48 + n % 10)]
termination_by n
decreasing_by omega
theorem dD_small {n : Nat} (h : n < 10) : dD n = [UInt8.ofNat (48 + n)] := by rw [dD, dif_pos h]
theorem dD_step {n : Nat} (h : ¬ n < 10) : dD n = dD (n / 10) ++ [UInt8.ofNat (48 + n % 10)] := by rw [dD, dif_neg h]
theorem dD_len (k : Nat) : ∀ n, n < 10 ^ (k + 1) → (dD n).length ≤ k + 1 := by
  induction k with
  | zero => intro n h; rw [dD_small (by simpa using h)]; simp
  | succ k ih =>
    intro n h
    by_cases q : n < 10
    · rw [dD_small q]; simp
    · rw [dD_step q, List.length_append]
      have h1 : n / 10 < 10 ^ (k + 1) := by
        rw [Nat.div_lt_iff_lt_mul (by omega), ← Nat.pow_succ]
        exact h
      have := ih _ h1
      simp
      omega
theorem ofNat_toNat {n : Nat} (h : n < 256) : (UInt8.ofNat n).toNat = n := by simp; omega
theorem dD_d (n : Nat) : ∀ k, n ≤ k → allD (dD n) := by
  intro k
  induction k generalizing n with
  | zero =>
    intro h
    rw [dD_small (by omega)]
    intro b hb
    have : b = UInt8.ofNat (48 + n) := by simpa using hb
    rw [this, show n = 0 by omega]
    decide
  | succ k ih =>
    intro h
    have one : ∀ m, m < 10 → isD (UInt8.ofNat (48 + m)) = true := by
      intro m hm
      unfold isD
      apply decide_eq_true
      rw [ofNat_toNat (by omega)]
      omega
    by_cases q : n < 10
    · rw [dD_small q]
      intro b hb
      have : b = UInt8.ofNat (48 + n) := by simpa using hb
      rw [this]
      exact one n q
    · rw [dD_step q]
      refine (ih (n / 10) (by omega)).app ?_
      intro b hb
      have : b = UInt8.ofNat (48 + n % 10) := by simpa using hb
      rw [this]
      exact one _ (by omega)
theorem dD_nat (n : Nat) : ∀ k, n ≤ k → nat (dD n) = n := by
  intro k
  induction k generalizing n with
  | zero =>
    intro h
    rw [dD_small (by omega), show n = 0 by omega]
    rfl
  | succ k ih =>
    intro h
    by_cases q : n < 10
    · rw [dD_small q, nat_cons]
      unfold dv
      rw [ofNat_toNat (by omega)]
      simp [nat]
    · rw [dD_step q, nat_append, ih (n / 10) (by omega), nat_cons]
      unfold dv
      rw [ofNat_toNat (by omega)]
      simp [nat]
      omega
theorem dD_ne (n : Nat) : dD n ≠ [] := by
  rw [dD]
  split
  · simp
  · simp
/-- The exact digits of m times 2^e. -/
def exZ (k : Nat) (d : List UInt8) : List UInt8 := List.replicate (k + 1 - d.length) 48 ++ d
def exD (m : Nat) (e : Int) : List UInt8 := if 0 ≤ e then dD (m * 2 ^ e.toNat) else (exZ (-e).toNat (dD (m * 5 ^ (-e).toNat))).take ((exZ (-e).toNat (dD (m * 5 ^ (-e).toNat))).length - (-e).toNat) ++ 46 :: (exZ (-e).toNat (dD (m * 5 ^ (-e).toNat))).drop ((exZ (-e).toNat (dD (m * 5 ^ (-e).toNat))).length - (-e).toNat)
theorem exZ_len (k : Nat) (d : List UInt8) : k + 1 ≤ (exZ k d).length := by unfold exZ; rw [List.length_append, List.length_replicate]; omega
theorem exZ_d (k : Nat) {d : List UInt8} (h : allD d) : allD (exZ k d) := (allD.zeros _).app h
theorem exZ_nat (k : Nat) (d : List UInt8) : nat (exZ k d) = nat d := by unfold exZ; rw [nat_append, nat_zeros]; simp
end Go.Proofs.YtpdjpjkieafnbaaGreatDoor
set_option linter.unusedVariables false
set_option linter.unusedSimpArgs false
namespace Go.Proofs.YtpdjpjkieafnbaaGreatDoor.Li
open Go.RowKit Lb
theorem cut0_app (a b : List Nat) (h : cut0 a ≠ []) : cut0 (a ++ b) = cut0 a ++ b := by
  unfold cut0 at *
  rw [List.dropWhile_append]
  simp [h]
theorem dec_small {n : Nat} (h : n < 10) : dec n = [48 + n] := by
  unfold dec
  by_cases h0 : n = 0
  · rw [if_pos h0, h0]
  · rw [if_neg h0, ← cut0_eq n 1 (by omega)]
    rw [dw, dw]
    unfold cut0
    have e : n % 10 = n := Nat.mod_eq_of_lt h
    rw [e, List.nil_append, List.dropWhile_cons_of_neg (by simp; omega)]
theorem dec_step {n : Nat} (h : ¬ n < 10) : dec n = dec (n / 10) ++ [48 + n % 10] := by
  have h1 : n / 10 ≠ 0 := by omega
  have hb : n / 10 < 10 ^ (n / 10) := lt_pow _
  have hb2 : n < 10 ^ (n / 10 + 1) := by rw [Nat.pow_succ]; omega
  unfold dec
  rw [if_neg (by omega), if_neg h1, ← cut0_eq n (n / 10 + 1) hb2, dw, cut0_app _ _ (cut0_ne _ _ (by omega) hb)]
/-- The digits that Print writes are the digits. -/
theorem dec_dD : ∀ (k n : Nat), n ≤ k → (dec n).map UInt8.ofNat = dD n := by
  intro k
  induction k with
  | zero =>
    intro n hn
    rw [dec_small (by omega), dD_small (by omega)]
    rfl
  | succ k ih =>
    intro n hn
    by_cases h : n < 10
    · rw [dec_small h, dD_small h]
      rfl
    · rw [dec_step h, dD_step h, List.map_append, ih (n / 10) (by omega)]
      rfl
theorem S8_dD (n : Nat) : S8 (dec n) = ⟨(dD n).toArray⟩ := by
  unfold S8
  rw [dec_dD n n (Nat.le_refl _)]
/-- Print, of a natural that is not too long. -/
theorem Print_dD (a : Option Addr) (ca : Nat) (l : List Nat) (w : World) (h1 : l.length ≤ ca) (h2 : l.length ≤ 1000) (h3 : Rd w a l) (h4 : Lim l) :
    Calls Tryz.prog 107 #[.slice a l.length ca] w fun e w' => e = .returned (.string ⟨(dD (val l)).toArray⟩) ∧ Keep w w' := by
  have hl : lenB l ≤ 1099511627776 := by
    have := lenB_max h4
    omega
  have q := Print_any a ca l w h1 (by omega) h3 h4 hl
  rw [S8_dD] at q
  exact q
end Go.Proofs.YtpdjpjkieafnbaaGreatDoor.Li
set_option linter.unusedVariables false
set_option linter.unusedSimpArgs false
namespace Go.Proofs.YtpdjpjkieafnbaaGreatDoor.Li
open Go.RowKit Lb
theorem rep0 (k : Nat) : Lib.repeatL [48] k = List.replicate k 48 := by
  induction k with
  | zero => rfl
  | succ k ih => rw [List.replicate_succ, Lib.repeatL, ih]; rfl
theorem rp_of (k : Nat) (hk : k ≤ 100000) (wx : World) : Calls Tryz.prog 109 #[.string ⟨#[48]⟩, .int .i64 (k : Int)] wx fun e w' => e = .returned (.string ⟨(List.replicate k 48).toArray⟩) ∧ Keep wx w' := by
  have h := Tryz.strings_Repeat ⟨#[48]⟩ k wx (by omega) (by show 1 * k ≤ _; omega)
  have e2 : (ByteArray.mk #[48]).data.toList = [48] := rfl
  rw [e2, rep0] at h
  exact h
theorem two_limbs (k K : Nat) (h : k ≤ 32 * K) : (2 : Nat) ^ k ≤ 4294967296 ^ K := by
  rw [show (4294967296 : Nat) = 2 ^ 32 from rfl, ← Nat.pow_mul]
  exact Nat.pow_le_pow_right (by omega) h
theorem five_two (k : Nat) : (5 : Nat) ^ k ≤ 2 ^ (3 * k) := by
  rw [Nat.pow_mul]
  exact Nat.pow_le_pow_left (by omega) k
/-- What is asked of Print. -/
def PrD : Prop := ∀ (a : Option Addr) (ca : Nat) (l : List Nat) (w : World), l.length ≤ ca → l.length ≤ 1000 → Rd w a l → Lim l → Calls Tryz.prog 107 #[.slice a l.length ca] w fun e w' => e = .returned (.string ⟨(dD (val l)).toArray⟩) ∧ Keep w w'
set_option maxRecDepth 100000 in
set_option maxHeartbeats 1000000 in
theorem exact_any (hPr : PrD) (m : Nat) (e : Int) (w : World) (hm0 : 0 < m) (hm : m < 9007199254740992) (he : -1074 ≤ e ∧ e ≤ 971) (hT : Bi.Tab w) :
    Calls Tryz.prog 65 #[.int .u64 (m : Nat), .int .i64 e] w fun r w' => ∃ (m' : Nat) (e' : Int) (j : Nat), m = m' * 2 ^ j ∧ e' = e + (j : Int) ∧ (-1074 ≤ e' ∧ e' ≤ 971) ∧ r = .returned (.string ⟨(exD m' e').toArray⟩) ∧ Keep w w' := by
  have hZ := Bi.tz_any m (by omega) (by omega) w hT
  obtain ⟨K, hK⟩ : ∃ K, Lib.ctz 64 m = K := ⟨_, rfl⟩
  rw [hK] at hZ
  have hwe : IntKind.i64.wrap (-e) = -e := by rw [IntWalk.i64_left]; exact IntWalk.wrap64_in _ (by omega)
  go_enter Tryz.func65, Tryz.ntmps65
  go_upto_if 17 with (go_at_call 105; refine hZ.mono ?_; rintro r w1 ⟨rfl, hw1⟩; rw [hw1]; clear hw1 w1)
  have hspec : ∃ q, m = (2 * q + 1) * 2 ^ K ∧ K < 64 := by
    obtain ⟨q, h1, h2⟩ := Lib.ctzFrom_spec 64 m (by omega) (by omega)
    have e1 : Lib.ctz 64 m = Lib.ctzFrom 64 m := by unfold Lib.ctz; rw [if_neg (by omega)]
    rw [e1] at hK
    rw [hK] at h1 h2
    exact ⟨q, by rw [Nat.mul_comm]; exact h1, h2⟩
  clear hK hZ
  have HE : Hid (-1074 ≤ e ∧ e ≤ 971) := he
  have HM : Hid (0 < m ∧ m < 9007199254740992) := ⟨hm0, hm⟩
  go_cut [0, 1, 5, 15, 16] from 17 to 23 (fun s0 s1 s5 s15 s16 wx => w = wx ∧ ∃ (m1 : Nat) (e1 : Int), s0 = .int .u64 (m1 : Nat) ∧ s1 = .int .i64 e1 ∧ Hid (∃ j : Nat, m = m1 * 2 ^ j ∧ e1 = e + (j : Int) ∧ (j = 0 ∨ e1 ≤ 0)))
  case first =>
    by_cases hp : 0 < min (K : Int) (-e)
    · obtain ⟨n, hn⟩ : ∃ n : Nat, min (K : Int) (-e) = (n : Int) := ⟨(min (K : Int) (-e)).toNat, by omega⟩
      have hnK : n ≤ K := by omega
      have hne : (n : Int) ≤ -e := by omega
      have hn0 : (0 : Int) < (n : Int) := by omega
      obtain ⟨q, hq, hK64⟩ := hspec
      have hdiv : m = (m / 2 ^ n) * 2 ^ n := by
        have : 2 ^ n ∣ m := by
          rw [hq]
          exact Nat.dvd_trans (Nat.pow_dvd_pow 2 hnK) (Nat.dvd_mul_left _ _)
        exact (Nat.div_mul_cancel this).symm
      have hwn : IntKind.i64.wrap (e + (n : Int)) = e + (n : Int) := by rw [IntWalk.i64_left]; exact IntWalk.wrap64_in _ (by omega)
      have HD : Hid (m = (m / 2 ^ n) * 2 ^ n ∧ e + (n : Int) ≤ 0) := ⟨hdiv, by omega⟩
      rw [hn]
      clear hdiv hq hp hn
      go_wp2_with fail
      go_meet
      case rel => exact ⟨rfl, m / 2 ^ n, e + (n : Int), by simp, rfl, n, HD.out.1, rfl, .inr HD.out.2⟩
    · have HD : Hid (m = m * 2 ^ 0) := by simp [Hid]
      have hp2 : decide (0 < min (K : Int) (-e)) = false := by simpa using hp
      clear hspec
      go_wp2_with fail
      go_meet
      case rel => exact ⟨rfl, m, e, rfl, rfl, 0, HD.out, by simp, .inl rfl⟩
  case rest =>
    obtain ⟨rfl, m1, e1, rfl, rfl, HJ⟩ := hcut
    have hm1 : 0 < m1 ∧ m1 < 9007199254740992 := by
      obtain ⟨j, h1, -⟩ := HJ.out
      have h2 := HM.out
      have h3 : 0 < 2 ^ j := Nat.two_pow_pos j
      refine ⟨Nat.pos_of_ne_zero (fun q => by rw [q] at h1; omega), ?_⟩
      have : m1 * 1 ≤ m1 * 2 ^ j := Nat.mul_le_mul_left _ h3
      omega
    have he1 : -1074 ≤ e1 ∧ e1 ≤ 971 := by
      obtain ⟨j, -, h1, h2⟩ := HJ.out
      have := HE.out
      omega
    have HE1 : Hid (-1074 ≤ e1 ∧ e1 ≤ 971) := he1
    have hF := fun wx => From_any m1 wx (by omega)
    by_cases hpos : 0 ≤ e1
    · obtain ⟨k, hk⟩ : ∃ k : Nat, e1 = (k : Int) := ⟨e1.toNat, by omega⟩
      have hkb : k ≤ 971 := by omega
      have hge : (0 : Int) ≤ (k : Int) := by omega
      rw [hk]
      have HKE : Hid (e1 = (k : Int)) := hk
      clear hk hpos he1
      go_wp2_with fail
      refine (hF _).mono ?_
      rintro r w3 ⟨v3, l3, rfl, o3, m3, p3, e3, k3⟩
      obtain ⟨a3, c3, rfl, hc3, r3⟩ := o3.shape
      have j3 : l3.length ≤ 2 := len_le_pow p3 2 (by rw [e3]; show m1 < 18446744073709551616; omega)
      go_wp2_with fail
      refine (Up_any a3 c3 k l3 w3 hc3 (by omega) (by omega) r3 m3).mono ?_
      rintro r w4 ⟨v4, rfl, n4, k4⟩
      obtain ⟨a4, c4, l4, rfl, hc4, r4, m4, p4, e4, -⟩ := n4.shape
      have j4 : l4.length ≤ 33 := len_le_pow p4 33 (by
        rw [e4, e3]
        have q1 := two_limbs k 31 (by omega)
        have q2 : m1 * 2 ^ k ≤ m1 * 4294967296 ^ 31 := Nat.mul_le_mul_left _ q1
        have q3 : m1 * 4294967296 ^ 31 < 4294967296 ^ 2 * 4294967296 ^ 31 := Nat.mul_lt_mul_of_pos_right (by show m1 < 18446744073709551616; omega) (Nat.pow_pos (by omega))
        exact Nat.lt_of_le_of_lt q2 q3)
      go_wp2_with fail
      refine (hPr a4 c4 l4 w4 hc4 (by omega) r4 m4).mono ?_
      rintro r w5 ⟨rfl, k5⟩
      go_wp2_with fail
      go_ret
      obtain ⟨j, h1, h2, h3⟩ := HJ.out
      refine ⟨m1, e1, j, h1, h2, HE1.out, ?_, (k3.trans k4).trans k5⟩
      unfold exD
      rw [HKE.out, if_pos (by omega)]
      rfl
    · obtain ⟨k, hk⟩ : ∃ k : Nat, e1 = -(k : Int) := ⟨(-e1).toNat, by omega⟩
      have hkb : 0 < k ∧ k ≤ 1074 := by omega
      have hge : ¬ (0 : Int) ≤ -(k : Int) := by omega
      rw [hk]
      have HKE : Hid (e1 = -(k : Int)) := hk
      clear hk hpos he1
      have hF5 := fun wx => From_any 5 wx (by omega)
      have hwk : IntKind.i64.wrap (-(-(k : Int))) = (k : Int) := by rw [Int.neg_neg, IntWalk.i64_left]; exact IntWalk.wrap64_in _ (by omega)
      go_wp2_with fail
      refine (hF5 _).mono ?_
      rintro r w3 ⟨v3, l3, rfl, o3, m3, p3, e3, k3⟩
      obtain ⟨a3, c3, rfl, hc3, r3⟩ := o3.shape
      have j3 : l3.length ≤ 1 := len_le_pow p3 1 (by rw [e3]; decide)
      go_wp2_with fail
      have hpE : powE l3 (k : Int) = 0 := by
        unfold powE
        have q := lenB_max m3
        have q2 : lenB l3 * k ≤ 32 * k := Nat.mul_le_mul_right k (by omega)
        rw [if_neg (by omega), if_neg (by
          have e : ((lenB l3 : Int) * (k : Int)) = ((lenB l3 * k : Nat) : Int) := by simp
          rw [e]
          omega)]
      have hpV : powV l3 (k : Int) = 5 ^ k := by
        unfold powV
        have q := lenB_max m3
        have q2 : lenB l3 * k ≤ 32 * k := Nat.mul_le_mul_right k (by omega)
        rw [if_neg (by omega), if_neg (by
          have e : ((lenB l3 : Int) * (k : Int)) = ((lenB l3 * k : Nat) : Int) := by simp
          rw [e]
          omega), e3]
        rfl
      have cP := Pow_any a3 c3 (k : Int) l3 w3 hc3 (by omega) r3 m3
      rw [hpE, hpV] at cP
      refine cP.mono ?_
      rintro r w4 ⟨a4, c4, l4, rfl, hc4, r4, m4, p4, e4, k4⟩
      have j4 : l4.length ≤ 102 := len_le_pow p4 102 (by
        rw [e4]
        have q1 := two_limbs (3 * k) 101 (by omega)
        exact Nat.lt_of_le_of_lt (Nat.le_trans (five_two k) q1) (Nat.pow_lt_pow_right (by omega) (by omega)))
      clear cP hpE hpV
      go_wp2_with fail
      refine (hF _).mono ?_
      rintro r w5 ⟨v5, l5, rfl, o5, m5, p5, e5, k5⟩
      obtain ⟨a5, c5, rfl, hc5, r5⟩ := o5.shape
      have j5 : l5.length ≤ 2 := len_le_pow p5 2 (by rw [e5]; show m1 < 18446744073709551616; omega)
      go_wp2_with fail
      refine (Mul_any a5 a4 c5 c4 l5 l4 w5 hc5 hc4 (by omega) (by omega) r5 (r4.keep k5) m5 m4).mono ?_
      rintro r w6 ⟨v6, rfl, n6, k6⟩
      obtain ⟨a6, c6, l6, rfl, hc6, r6, m6, p6, e6, -⟩ := n6.natR.shape
      have j6 : l6.length ≤ 104 := len_le_pow p6 104 (by
        rw [e6]
        have q1 := val_lt m5
        have q2 := val_lt m4
        have q3 : (4294967296 : Nat) ^ l5.length ≤ 4294967296 ^ 2 := Nat.pow_le_pow_right (by omega) j5
        have q4 : (4294967296 : Nat) ^ l4.length ≤ 4294967296 ^ 102 := Nat.pow_le_pow_right (by omega) j4
        have q5 : val l5 * val l4 < 4294967296 ^ 2 * 4294967296 ^ 102 := Nat.mul_lt_mul_of_lt_of_le (Nat.lt_of_lt_of_le q1 q3) (Nat.le_of_lt (Nat.lt_of_lt_of_le q2 q4)) (Nat.pow_pos (by omega))
        exact q5)
      rw [e5, e4] at e6
      have cQ := hPr a6 c6 l6 w6 hc6 (by omega) r6 m6
      rw [e6] at cQ
      go_wp2_with fail
      refine cQ.mono ?_
      rintro r w7 ⟨rfl, k7⟩
      have K7 : Hid (Keep w w7) := (((k3.trans k4).trans k5).trans k6).trans k7
      have hdl : (dD (m1 * 5 ^ k)).length ≤ 1100 := by
        obtain ⟨Z, hZ⟩ : ∃ Z, Z = 1099 := ⟨_, rfl⟩
        rw [show 1100 = Z + 1 by omega]
        apply dD_len Z
        have q1 : (5 : Nat) ^ k ≤ 10 ^ k := Nat.pow_le_pow_left (by omega) k
        have q2 : m1 * 5 ^ k ≤ m1 * 10 ^ k := Nat.mul_le_mul_left _ q1
        have q3 : m1 * 10 ^ k < 10 ^ 16 * 10 ^ k := Nat.mul_lt_mul_of_pos_right (by show m1 < 10000000000000000; omega) (Nat.pow_pos (by omega))
        rw [← Nat.pow_add] at q3
        exact Nat.lt_of_lt_of_le (Nat.lt_of_le_of_lt q2 q3) (Nat.pow_le_pow_right (by omega) (by omega))
      obtain ⟨d, hd⟩ : ∃ d, dD (m1 * 5 ^ k) = d := ⟨_, rfl⟩
      rw [hd] at hdl
      rw [hd]
      have HDD : Hid (dD (m1 * 5 ^ k) = d) := hd
      clear hd cQ k3 k4 k5 k6 k7 r3 r4 r5 r6 e6 e5 e4 e3
      obtain ⟨L, hL⟩ : ∃ L, d.length = L := ⟨_, rfl⟩
      rw [hL] at hdl
      have s1 : (ByteArray.mk d.toArray).size = L := by rw [sz_mk, hL]
      obtain ⟨z, hz⟩ : ∃ z, k + 1 - L = z := ⟨_, rfl⟩
      have hw48 : IntKind.i64.wrap (1 - -(k : Int)) = (k : Int) + 1 := by rw [show (1 : Int) - -(k : Int) = (k : Int) + 1 by omega, IntWalk.i64_left]; exact IntWalk.wrap64_in _ (by omega)
      have hw48b : IntKind.i64.wrap (1 + (k : Int)) = (k : Int) + 1 := by rw [show (1 : Int) + (k : Int) = (k : Int) + 1 by omega, IntWalk.i64_left]; exact IntWalk.wrap64_in _ (by omega)
      have hw51 : IntKind.i64.wrap ((k : Int) + 1 - (L : Int)) = (k : Int) + 1 - (L : Int) := by rw [IntWalk.i64_left]; exact IntWalk.wrap64_in _ (by omega)
      have hmax : max (0 : Int) ((k : Int) + 1 - (L : Int)) = (z : Int) := by omega
      have hRp := fun wx => rp_of z (by omega) wx
      have hcat : (ByteArray.mk (List.replicate z (48 : UInt8)).toArray) ++ (ByteArray.mk d.toArray) = ByteArray.mk (exZ k d).toArray := by
        rw [catB]
        unfold exZ
        rw [hL, hz]
      obtain ⟨R, hR⟩ : ∃ R, List.replicate z (48 : UInt8) = R := ⟨_, rfl⟩
      rw [hR] at hRp hcat
      have s3 : (ByteArray.mk R.toArray).size = z := by rw [sz_mk, ← hR, List.length_replicate]
      clear hR
      have hZl := exZ_len k d
      have hZl2 : (exZ k d).length ≤ 3000 := by
        unfold exZ
        rw [List.length_append, List.length_replicate, hL]
        omega
      obtain ⟨D, hD⟩ : ∃ D, exZ k d = D := ⟨_, rfl⟩
      rw [hD] at hcat hZl hZl2
      have HD : Hid (exZ k d = D) := hD
      obtain ⟨M, hM⟩ : ∃ M, D.length = M := ⟨_, rfl⟩
      rw [hM] at hZl hZl2
      have s2 : (ByteArray.mk D.toArray).size = M := by rw [sz_mk, hM]
      obtain ⟨i, hi⟩ : ∃ i, M - k = i := ⟨_, rfl⟩
      have hw60 : IntKind.i64.wrap ((M : Int) + -(k : Int)) = (i : Int) := by rw [show (M : Int) + -(k : Int) = (i : Int) by omega, IntWalk.i64_left]; exact IntWalk.wrap64_in _ (by omega)
      have hu : ∀ wx, (Instr.slice 9 (.string ⟨D.toArray⟩) none (some (.int .i64 (i : Int))) none).run Tryz.prog wx = .ok (.string ⟨(D.take i).toArray⟩) wx := fun wx => run_upto D i (by omega) wx
      have hf : ∀ wx, (Instr.slice 9 (.string ⟨D.toArray⟩) (some (.int .i64 (i : Int))) none none).run Tryz.prog wx = .ok (.string ⟨(D.drop i).toArray⟩) wx := fun wx => run_from D i (by omega) wx
      have HI : Hid (M - k = i ∧ D.length = M) := ⟨hi, hM⟩
      obtain ⟨TA, hTA⟩ : ∃ x, D.take i = x := ⟨_, rfl⟩
      obtain ⟨TB, hTB⟩ : ∃ x, D.drop i = x := ⟨_, rfl⟩
      have hA : (ByteArray.mk TA.toArray).size ≤ 3000 := by rw [sz_mk, ← hTA, List.length_take, hM]; omega
      have hB : (ByteArray.mk TB.toArray).size ≤ 3000 := by rw [sz_mk, ← hTB, List.length_drop, hM]; omega
      have hAB : (ByteArray.mk TA.toArray ++ (⟨#[46]⟩ : ByteArray)).size ≤ 3001 := by rw [ByteArray.size_append, show (⟨#[46]⟩ : ByteArray).size = 1 from rfl]; omega
      have hABC : (ByteArray.mk TA.toArray ++ (⟨#[46]⟩ : ByteArray) ++ ByteArray.mk TB.toArray).size ≤ 6001 := by rw [ByteArray.size_append]; omega
      have hAl : TA.length ≤ 3000 := by rw [← hTA, List.length_take, hM]; omega
      have hBl : TB.length ≤ 3000 := by rw [← hTB, List.length_drop, hM]; omega
      have hiw : IntKind.i64.wrap (i : Int) = (i : Int) := by rw [IntWalk.i64_left]; exact IntWalk.wrap64_in _ (by omega)
      have him : (M : Int) + -(k : Int) = (i : Int) := by omega
      have hil : i ≤ 3000 := by omega
      rw [hTA] at hu
      rw [hTB] at hf
      have HT : Hid (D.take i = TA ∧ D.drop i = TB) := ⟨hTA, hTB⟩
      clear hTA hTB
      clear hz hL hD hM hi hZl
      go_wp2_with fail
      refine (hRp _).mono ?_
      rintro r w8 ⟨rfl, k8⟩
      have K8 : Hid (Keep w w8) := K7.out.trans k8
      clear hRp k8
      go_wp2_with fail
      go_region_with (fail)
      go_simp
      go_wp2_with fail
      go_ret
      obtain ⟨j, h1, h2, h3⟩ := HJ.out
      refine ⟨m1, e1, j, h1, h2, HE1.out, ?_, by first | exact K8.out | exact K8.out.drew | exact K8.out.drewN _⟩
      unfold exD
      rw [HKE.out, if_neg (by omega), show (-(-(k : Int))).toNat = k by omega, HDD.out, HD.out, HI.out.2, HI.out.1, HT.out.1, HT.out.2]
      have q : ByteArray.mk TA.toArray ++ (⟨#[46]⟩ : ByteArray) ++ ByteArray.mk TB.toArray = ⟨(TA ++ 46 :: TB).toArray⟩ := by
        rw [show (⟨#[46]⟩ : ByteArray) = ⟨([46] : List UInt8).toArray⟩ from rfl, catB, catB]
        simp
      rw [← q]
      rfl
end Go.Proofs.YtpdjpjkieafnbaaGreatDoor.Li
set_option linter.unusedVariables false
set_option linter.unusedSimpArgs false
namespace Go.Proofs.YtpdjpjkieafnbaaGreatDoor.Li
open Go.RowKit Lb
theorem prD : PrD := fun a ca l w h1 h2 h3 h4 => Print_dD a ca l w h1 h2 h3 h4
theorem exD_len (m : Nat) (e : Int) (hm : m < 9007199254740992) (he : -1074 ≤ e ∧ e ≤ 971) : (exD m e).length ≤ 3000 := by
  have h16 : m < 10 ^ 16 := by show m < 10000000000000000; omega
  have big : ∀ n j, n ≤ m * 10 ^ j → j ≤ 1074 → (dD n).length ≤ 1100 := by
    intro n j h hj
    obtain ⟨Z, hZ⟩ : ∃ Z, Z = 1099 := ⟨_, rfl⟩
    rw [show 1100 = Z + 1 by omega]
    apply dD_len Z
    have q3 : m * 10 ^ j < 10 ^ 16 * 10 ^ j := Nat.mul_lt_mul_of_pos_right h16 (Nat.pow_pos (by omega))
    rw [← Nat.pow_add] at q3
    exact Nat.lt_of_lt_of_le (Nat.lt_of_le_of_lt h q3) (Nat.pow_le_pow_right (by omega) (by omega))
  unfold exD
  by_cases h : 0 ≤ e
  · rw [if_pos h]
    have := big (m * 2 ^ e.toNat) e.toNat (Nat.mul_le_mul_left _ (Nat.pow_le_pow_left (by omega) _)) (by omega)
    omega
  · rw [if_neg h]
    obtain ⟨k, hk⟩ : ∃ k, (-e).toNat = k := ⟨_, rfl⟩
    rw [hk]
    have hd := big (m * 5 ^ k) k (Nat.mul_le_mul_left _ (Nat.pow_le_pow_left (by omega) _)) (by omega)
    have hl : (exZ k (dD (m * 5 ^ k))).length ≤ 2200 := by
      unfold exZ
      rw [List.length_append, List.length_replicate]
      omega
    rw [List.length_append, List.length_cons, List.length_take, List.length_drop]
    omega
/-- The exact text of a number that has digits. -/
theorem Exact_some (b : Nat) (hb : b < 18446744073709551616) (hk : pKind b = 1 ∨ pKind b = 2) (hM : 0 < pM b) (w : World) (hT : Bi.Tab w) :
    Calls Tryz.prog 23 #[.float .f64 b] w fun r w' => ∃ (m' : Nat) (e' : Int) (j : Nat), pM b = m' * 2 ^ j ∧ e' = pE b + (j : Int) ∧ (exD m' e').length ≤ 3000 ∧ r = .returned (.string ⟨(sgS (pNeg b) (exD m' e')).toArray⟩) ∧ Keep w w' := by
  have hP := Parts_any b hb w
  have hMl := pM_lt b
  have hEi := pE_in b
  have hN : ∀ wx, Calls Tryz.prog 63 #[.int .u8 (pKind b : Nat)] wx fun e w' => e = .returned (.string ⟨#[]⟩) ∧ wx = w' := fun wx => by
    have q := named_any (pKind b) (by omega) wx
    have e : nmS (pKind b) = [] := by unfold nmS; rw [if_neg (by omega), if_neg (by omega), if_neg (by omega)]
    rw [e] at q
    exact q
  obtain ⟨k, hk2⟩ : ∃ k, pKind b = k := ⟨_, rfl⟩
  rw [hk2] at hP hN hk
  have hk4 : k < 4 := by omega
  generalize pM b = m at *
  generalize pE b = e at *
  generalize pNeg b = ng at *
  clear hk2 hk
  go_enter Tryz.func23, Tryz.ntmps23
  go_wp2_with fail
  refine hP.mono ?_
  rintro r w1 ⟨rfl, k1⟩
  go_wp2_with fail
  refine (hN _).mono ?_
  rintro r wz ⟨rfl, hz⟩
  subst hz
  go_wp2_with fail
  refine (exact_any prD m e w1 hM hMl hEi (hT.keep k1)).mono ?_
  rintro r w2 ⟨m', e', j, h1, h2, h3, rfl, k2⟩
  have hm' : m' < 9007199254740992 := by
    have h5 : 0 < 2 ^ j := Nat.two_pow_pos j
    have : m' * 1 ≤ m' * 2 ^ j := Nat.mul_le_mul_left _ h5
    omega
  have hlen : (exD m' e').length ≤ 3000 := exD_len m' e' hm' h3
  have cS := signedF_any ng k (exD m' e') hk4 (by omega) w2
  have HL : Hid ((exD m' e').length ≤ 3000) := hlen
  replace h1 : Hid _ := h1
  replace h2 : Hid _ := h2
  obtain ⟨X, hX⟩ : ∃ X, exD m' e' = X := ⟨_, rfl⟩
  obtain ⟨Y, hY⟩ : ∃ Y, sgS ng X = Y := ⟨_, rfl⟩
  rw [hX] at cS
  rw [hX]
  rw [hY] at cS
  have HX : Hid (exD m' e' = X ∧ sgS ng X = Y) := ⟨hX, hY⟩
  clear hlen hX hY h3
  go_wp2_with fail
  refine cS.mono ?_
  rintro r wz ⟨rfl, hz⟩
  subst hz
  go_wp2_with fail
  go_ret
  exact ⟨m', e', j, h1.out, h2.out, HL.out, by rw [HX.out.1, HX.out.2]; rfl, k1.trans k2⟩
end Go.Proofs.YtpdjpjkieafnbaaGreatDoor.Li
set_option linter.unusedVariables false
set_option linter.unusedSimpArgs false
namespace Go.Proofs.YtpdjpjkieafnbaaGreatDoor
/-- Two quotients that are one number have the same lowest terms. -/
theorem low_one {N D N' D' : Nat} (hD : 0 < D) (hD' : 0 < D') (h : N * D' = N' * D) : N / Nat.gcd N D = N' / Nat.gcd N' D' ∧ D / Nat.gcd N D = D' / Nat.gcd N' D' := by
  have hg : 0 < Nat.gcd N D := Nat.gcd_pos_of_pos_right _ hD
  have hg' : 0 < Nat.gcd N' D' := Nat.gcd_pos_of_pos_right _ hD'
  have cop : Nat.Coprime (N / Nat.gcd N D) (D / Nat.gcd N D) := Nat.coprime_div_gcd_div_gcd hg
  have cop' : Nat.Coprime (N' / Nat.gcd N' D') (D' / Nat.gcd N' D') := Nat.coprime_div_gcd_div_gcd hg'
  have e1 : N = N / Nat.gcd N D * Nat.gcd N D := (Nat.div_mul_cancel (Nat.gcd_dvd_left _ _)).symm
  have e2 : D = D / Nat.gcd N D * Nat.gcd N D := (Nat.div_mul_cancel (Nat.gcd_dvd_right _ _)).symm
  have e3 : N' = N' / Nat.gcd N' D' * Nat.gcd N' D' := (Nat.div_mul_cancel (Nat.gcd_dvd_left _ _)).symm
  have e4 : D' = D' / Nat.gcd N' D' * Nat.gcd N' D' := (Nat.div_mul_cancel (Nat.gcd_dvd_right _ _)).symm
  generalize Nat.gcd N D = g at *
  generalize Nat.gcd N' D' = g' at *
  generalize N / g = n at *
  generalize D / g = d at *
  generalize N' / g' = n' at *
  generalize D' / g' = d' at *
  have hx : n * d' = n' * d := by
    rw [e1, e2, e3, e4] at h
    have h2 : n * d' * (g * g') = n' * d * (g * g') := by
      rw [show n * d' * (g * g') = n * g * (d' * g') by simp only [Nat.mul_assoc, Nat.mul_left_comm, Nat.mul_comm], h]
      simp only [Nat.mul_assoc, Nat.mul_left_comm, Nat.mul_comm]
    exact Nat.eq_of_mul_eq_mul_right (Nat.mul_pos hg hg') h2
  have a1 : d ∣ d' := cop.symm.dvd_of_dvd_mul_left (by rw [hx]; exact Nat.dvd_mul_left _ _)
  have a2 : d' ∣ d := cop'.symm.dvd_of_dvd_mul_left (by rw [← hx]; exact Nat.dvd_mul_left _ _)
  have ed : d = d' := Nat.dvd_antisymm a1 a2
  have d0 : 0 < d := Nat.pos_of_ne_zero (fun q => by rw [q] at e2; omega)
  refine ⟨?_, ed⟩
  rw [← ed] at hx
  exact Nat.eq_of_mul_eq_mul_right d0 hx
/-- What the law's loop keeps of a text: its digits, how many behind the point, whether a point was seen. -/
structure WS where
  d : List UInt8
  k : Nat
  p : Bool
def wsStep (s : WS) (c : UInt8) : WS := if c = 46 then ⟨s.d, s.k, true⟩ else ⟨s.d ++ [c], s.k + (if s.p then 1 else 0), s.p⟩
def ws (l : List UInt8) : WS := l.foldl wsStep ⟨[], 0, false⟩
theorem ws_nil : ws [] = ⟨[], 0, false⟩ := rfl
theorem ws_take (l : List UInt8) (i : Nat) (h : i < l.length) : ws (l.take (i + 1)) = wsStep (ws (l.take i)) l[i] := by
  unfold ws
  rw [List.take_succ_eq_append_getElem h, List.foldl_append]
  rfl
theorem ws_len (l : List UInt8) : (ws l).d.length ≤ l.length ∧ (ws l).k ≤ l.length := by
  have gen : ∀ (l : List UInt8) (s : WS), (l.foldl wsStep s).d.length ≤ s.d.length + l.length ∧ (l.foldl wsStep s).k ≤ s.k + l.length := by
    intro l
    induction l with
    | nil => intro s; simp
    | cons c l ih =>
      intro s
      rw [List.foldl_cons]
      have := ih (wsStep s c)
      have q : (wsStep s c).d.length ≤ s.d.length + 1 ∧ (wsStep s c).k ≤ s.k + 1 := by
        unfold wsStep
        split
        · simp
        · constructor
          · simp
          · show s.k + (if s.p then 1 else 0) ≤ _; split <;> omega
      simp only [List.length_cons]
      omega
  have := gen l ⟨[], 0, false⟩
  simpa [ws] using this
theorem ws_digits : ∀ (l : List UInt8) (s : WS), allD l → l.foldl wsStep s = ⟨s.d ++ l, s.k + (if s.p then l.length else 0), s.p⟩ := by
  intro l
  induction l with
  | nil => intro s _; simp
  | cons c l ih =>
    intro s h
    have hc : c ≠ 46 := fun q => by
      have := h c (List.mem_cons_self ..)
      rw [q] at this
      exact absurd this (by decide)
    rw [List.foldl_cons, ih _ (fun x hx => h x (List.mem_cons_of_mem _ hx))]
    unfold wsStep
    rw [if_neg hc]
    cases hp : s.p <;> simp [Nat.add_comm, Nat.add_left_comm, Nat.add_assoc]
theorem ws_whole {A : List UInt8} (hA : allD A) : ws A = ⟨A, 0, false⟩ := by
  unfold ws
  rw [ws_digits A _ hA]
  simp
theorem ws_point {A B : List UInt8} (hA : allD A) (hB : allD B) : ws (A ++ 46 :: B) = ⟨A ++ B, B.length, true⟩ := by
  unfold ws
  rw [List.foldl_append, ws_digits A _ hA, List.foldl_cons, ws_digits B _ hB]
  simp [wsStep]
/-- What the exact digits say, over a power of ten. -/
theorem ws_exact (m : Nat) (e : Int) : allD (ws (exD m e)).d ∧ (ws (exD m e)).d ≠ [] ∧ (if 0 ≤ e then (ws (exD m e)).k = 0 ∧ nat (ws (exD m e)).d = m * 2 ^ e.toNat else (ws (exD m e)).k = (-e).toNat ∧ nat (ws (exD m e)).d = m * 5 ^ (-e).toNat) := by
  unfold exD
  by_cases he : 0 ≤ e
  · simp only [if_pos he]
    rw [ws_whole (dD_d _ _ (Nat.le_refl _))]
    exact ⟨dD_d _ _ (Nat.le_refl _), dD_ne _, rfl, dD_nat _ _ (Nat.le_refl _)⟩
  · simp only [if_neg he]
    obtain ⟨k, hk⟩ : ∃ k, (-e).toNat = k := ⟨_, rfl⟩
    rw [hk]
    have hl := exZ_len k (dD (m * 5 ^ k))
    have hd := exZ_d k (dD_d (m * 5 ^ k) _ (Nat.le_refl _))
    have hn := exZ_nat k (dD (m * 5 ^ k))
    rw [dD_nat _ _ (Nat.le_refl _)] at hn
    generalize exZ k (dD (m * 5 ^ k)) = d at *
    rw [ws_point (hd.take _) (hd.drop _)]
    refine ⟨(hd.take _).app (hd.drop _), ?_, ?_, ?_⟩
    · show d.take _ ++ d.drop _ ≠ []
      rw [List.take_append_drop]
      intro q
      rw [q] at hl
      simp at hl
    · show (d.drop (d.length - k)).length = k
      rw [List.length_drop]
      omega
    · show nat (d.take _ ++ d.drop _) = _
      rw [List.take_append_drop]
      exact hn
/-- The exact digits over the power of ten are the number's quotient. -/
theorem exact_cross (m m' j : Nat) (e e' : Int) (h1 : m = m' * 2 ^ j) (h2 : e' = e + (j : Int)) :
    nat (ws (exD m' e')).d * (1 * 2 ^ (-e).toNat) = m * 2 ^ e.toNat * 10 ^ (ws (exD m' e')).k := by
  obtain ⟨-, -, h⟩ := ws_exact m' e'
  by_cases he : 0 ≤ e'
  · rw [if_pos he] at h
    rw [h.1, h.2, h1, Nat.pow_zero, Nat.mul_one, Nat.one_mul, Nat.mul_assoc, Nat.mul_assoc, ← Nat.pow_add, ← Nat.pow_add]
    congr 2
    omega
  · rw [if_neg he] at h
    obtain ⟨k, hk⟩ : ∃ k, (-e').toNat = k := ⟨_, rfl⟩
    rw [hk] at h
    rw [h.1, h.2, h1, show e.toNat = 0 by omega, show (-e).toNat = k + j by omega, show (10 : Nat) ^ k = 2 ^ k * 5 ^ k by rw [← Nat.mul_pow], Nat.pow_add]
    simp only [Nat.one_mul, Nat.pow_zero, Nat.mul_one, Nat.mul_assoc, Nat.mul_comm, Nat.mul_left_comm]
end Go.Proofs.YtpdjpjkieafnbaaGreatDoor
set_option linter.unusedVariables false
set_option linter.unusedSimpArgs false
namespace Go.Proofs.YtpdjpjkieafnbaaGreatDoor.Li
open Go.RowKit Lb Nr
set_option maxHeartbeats 400000 in
theorem signedF_nan (ng : Bool) (s : ByteArray) (w : World) : Calls Tryz.prog 64 #[.bool ng, .int .u8 4, .string s] w fun e w' => e = .returned (.string s) ∧ w = w' := by
  cases ng
  all_goals
    go_enter Tryz.func64, Tryz.ntmps64
    go_wp2_with fail
    go_ret
    exact ⟨rfl, rfl⟩
/-- The text of what has a name. -/
def exS (b : Nat) : List UInt8 := if pKind b = 4 then [110, 97, 110] else sgS (pNeg b) (nmS (pKind b))
set_option maxRecDepth 100000 in
set_option maxHeartbeats 400000 in
theorem Exact_named (b : Nat) (hb : b < 18446744073709551616) (hk : pKind b = 0 ∨ pKind b = 3 ∨ pKind b = 4) (w : World) :
    Calls Tryz.prog 23 #[.float .f64 b] w fun r w' => r = .returned (.string ⟨(exS b).toArray⟩) ∧ Keep w w' := by
  have hP := Parts_any b hb w
  unfold exS
  generalize pM b = m at *
  generalize pE b = e at *
  generalize pNeg b = ng at *
  have hcS0 := fun wx => signedF_any ng 0 [48] (by omega) (by simp) wx
  have hcS3 := fun wx => signedF_any ng 3 [105, 110, 102] (by omega) (by simp) wx
  have hcS4 := fun wx => signedF_nan ng ⟨#[110, 97, 110]⟩ wx
  have hN0 := fun wx => named_any 0 (by omega) wx
  have hN3 := fun wx => named_any 3 (by omega) wx
  have hN4 := fun wx => named_any 4 (by omega) wx
  rcases hk with hk | hk | hk
  · rw [hk] at hP
    rw [hk, if_neg (by omega)]
    have e0 : nmS 0 = [48] := rfl
    rw [e0] at hN0
    rw [e0]
    obtain ⟨Y, hY⟩ : ∃ Y, sgS ng [48] = Y := ⟨_, rfl⟩
    rw [hY] at hcS0
    rw [hY]
    clear hN3 hN4 hcS3 hcS4 hk hY
    go_enter Tryz.func23, Tryz.ntmps23
    go_wp2_with fail
    refine hP.mono ?_
    rintro r w1 ⟨rfl, k1⟩
    go_wp2_with fail
    refine (hN0 _).mono ?_
    rintro r wz ⟨rfl, hz⟩
    subst hz
    go_wp2_with fail
    refine (hcS0 _).mono ?_
    rintro r wz ⟨rfl, hz⟩
    subst hz
    go_wp2_with fail
    go_ret
    exact ⟨rfl, k1⟩
  · rw [hk] at hP
    rw [hk, if_neg (by omega)]
    have e0 : nmS 3 = [105, 110, 102] := rfl
    rw [e0] at hN3
    rw [e0]
    obtain ⟨Y, hY⟩ : ∃ Y, sgS ng [105, 110, 102] = Y := ⟨_, rfl⟩
    rw [hY] at hcS3
    rw [hY]
    clear hN0 hN4 hcS0 hcS4 hk hY
    go_enter Tryz.func23, Tryz.ntmps23
    go_wp2_with fail
    refine hP.mono ?_
    rintro r w1 ⟨rfl, k1⟩
    go_wp2_with fail
    refine (hN3 _).mono ?_
    rintro r wz ⟨rfl, hz⟩
    subst hz
    go_wp2_with fail
    refine (hcS3 _).mono ?_
    rintro r wz ⟨rfl, hz⟩
    subst hz
    go_wp2_with fail
    go_ret
    exact ⟨rfl, k1⟩
  · rw [hk] at hP
    rw [hk, if_pos rfl]
    have e0 : nmS 4 = [110, 97, 110] := rfl
    rw [e0] at hN4
    clear hN0 hN3 hcS0 hcS3 hk
    go_enter Tryz.func23, Tryz.ntmps23
    go_wp2_with fail
    refine hP.mono ?_
    rintro r w1 ⟨rfl, k1⟩
    go_wp2_with fail
    refine (hN4 _).mono ?_
    rintro r wz ⟨rfl, hz⟩
    subst hz
    go_wp2_with fail
    refine (hcS4 _).mono ?_
    rintro r wz ⟨rfl, hz⟩
    subst hz
    go_wp2_with fail
    go_ret
    exact ⟨rfl, k1⟩
theorem exD_head (m : Nat) (e : Int) : ∃ c T, exD m e = c :: T ∧ isD c = true := by
  have gen : ∀ {A B : List UInt8}, allD A → A ≠ [] → ∃ c T, A ++ B = c :: T ∧ isD c = true := by
    intro A B h h0
    cases A with
    | nil => exact absurd rfl h0
    | cons c A => exact ⟨c, A ++ B, rfl, h c (List.mem_cons_self ..)⟩
  unfold exD
  split
  · have := gen (A := dD (m * 2 ^ e.toNat)) (B := []) (dD_d _ _ (Nat.le_refl _)) (dD_ne _)
    rw [List.append_nil] at this
    exact this
  · apply gen ((exZ_d _ (dD_d _ _ (Nat.le_refl _))).take _)
    intro q
    have := congrArg List.length q
    rw [List.length_take] at this
    have := exZ_len (-e).toNat (dD (m * 5 ^ (-e).toNat))
    simp at *
    omega
/-- What is said of a number's exact text, its sign apart. -/
structure ExT (b : Nat) (T : List UInt8) : Prop where
  len : T.length ≤ 3000
  hd : ∃ c R, T = c :: R ∧ isD c = true
  dg : allD (ws T).d
  ne : (ws T).d ≠ []
  cr : nat (ws T).d * qY b = qX b * 10 ^ (ws T).k
theorem pM_pos {b : Nat} (h : pKind b = 1 ∨ pKind b = 2) : 0 < pM b := by
  unfold pKind at h
  unfold pM
  have : pField b < 2048 := Nat.mod_lt _ (by omega)
  split
  · omega
  · rename_i g
    split at h
    · split at h <;> omega
    · split at h
      · omega
      · split at h <;> omega
theorem pM_nil {b : Nat} (h : pKind b = 0) : pM b = 0 := by
  unfold pKind at h
  unfold pM
  have : pField b < 2048 := Nat.mod_lt _ (by omega)
  split
  · rename_i g
    rw [if_neg (by omega), if_pos (by omega)] at h
    omega
  · split at h
    · split at h <;> omega
    · split at h
      · omega
      · split at h
        · omega
        · omega
theorem pKind_in (b : Nat) : pKind b ≤ 4 := by
  unfold pKind
  (repeat' split) <;> omega
/-- Exact, of every number. -/
theorem Exact_all (b : Nat) (hb : b < 18446744073709551616) (w : World) (hT : Bi.Tab w) :
    Calls Tryz.prog 23 #[.float .f64 b] w fun r w' => ∃ X : List UInt8, r = .returned (.string ⟨X.toArray⟩) ∧ Keep w w' ∧ (qB b = true → X = [110, 97, 110] ∨ X = [105, 110, 102] ∨ X = [45, 105, 110, 102]) ∧ (qB b = false → ∃ T, X = sgS (pNeg b) T ∧ ExT b T) := by
  have hin := pKind_in b
  by_cases hk : pKind b = 1 ∨ pKind b = 2
  · refine (Exact_some b hb hk (pM_pos hk) w hT).mono ?_
    rintro r w' ⟨m', e', j, h1, h2, h3, rfl, k⟩
    refine ⟨_, rfl, k, ?_, ?_⟩
    · intro h
      have := of_decide_eq_true h
      omega
    · intro _
      obtain ⟨a1, a2, -⟩ := ws_exact m' e'
      exact ⟨_, rfl, h3, exD_head _ _, a1, a2, exact_cross (pM b) m' j (pE b) e' h1 h2⟩
  · refine (Exact_named b hb (by omega) w).mono ?_
    rintro r w' ⟨rfl, k⟩
    refine ⟨_, rfl, k, ?_, ?_⟩
    · intro h
      have h2 : pKind b = 3 ∨ pKind b = 4 := of_decide_eq_true h
      unfold exS
      rcases h2 with h2 | h2
      · rw [h2, if_neg (by omega)]
        cases pNeg b
        · exact .inr (.inl rfl)
        · exact .inr (.inr rfl)
      · rw [if_pos h2]
        exact .inl rfl
    · intro h
      have h2 : ¬ (pKind b = 3 ∨ pKind b = 4) := of_decide_eq_false h
      have h3 : pKind b = 0 := by omega
      refine ⟨[48], by unfold exS; rw [h3]; rfl, by simp, ⟨48, [], rfl, by decide⟩, ?_, ?_, ?_⟩
      · have e : ws [48] = ⟨[48], 0, false⟩ := rfl
        rw [e]
        intro c hc
        have : c = 48 := by simpa using hc
        rw [this]
        decide
      · have e : ws [48] = ⟨[48], 0, false⟩ := rfl
        rw [e]
        simp
      · have e : ws [48] = ⟨[48], 0, false⟩ := rfl
        rw [e]
        have q : qX b = 0 := by unfold qX; rw [pM_nil h3, Nat.zero_mul]
        rw [q]
        show nat [48] * qY b = 0 * 10 ^ 0
        have : nat [48] = 0 := by decide
        rw [this, Nat.zero_mul, Nat.zero_mul]
end Go.Proofs.YtpdjpjkieafnbaaGreatDoor.Li
