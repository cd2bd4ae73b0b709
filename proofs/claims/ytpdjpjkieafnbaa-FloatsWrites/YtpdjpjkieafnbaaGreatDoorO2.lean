import Derived.Test.YtpdjpjkieafnbaaGreatDoorBC2
import Derived.Test.YtpdjpjkieafnbaaGreatDoorLE7
import Derived.Test.YtpdjpjkieafnbaaGreatDoorLE3
import Derived.Test.YtpdjpjkieafnbaaGreatDoorLD6
import Derived.Test.YtpdjpjkieafnbaaGreatDoorLC6
import Derived.Test.YtpdjpjkieafnbaaGreatDoorR4
import Derived.Test.YtpdjpjkieafnbaaGreatDoorR12
import Derived.Test.YtpdjpjkieafnbaaGreatDoorShelf
import Derived.Deep.CutRange
import Derived.Test.YtpdjpjkieafnbaaGreatDoorH5
import Derived.Test.YtpdjpjkieafnbaaGreatDoorLK1
import Derived.WalkKit
import Derived.WalkSpells
import Derived.WalkLawsBesides
import Derived.Laws.CopyOwn
import Derived.Deep.Draws
import Derived.Deep.QuietTactic
import Derived.BigQuiet
import Derived.Laws.MathBits
import Derived.Laws.BytesArg
import Derived.Lib.OthersKept
import Derived.Deep.RegionWith
import Derived.WalkMore
import Derived.Deep.LoopGhost
import Derived.Deep.RegionHeld3
import Derived.Test.YtpdjpjkieafnbaaGreatDoorLC18
set_option linter.unusedVariables false
set_option linter.unusedSimpArgs false
namespace Go.Proofs.YtpdjpjkieafnbaaGreatDoor.Li
open Go.RowKit Lb
theorem rep0 (k : Nat) : Lib.repeatL [48] k = List.replicate k 48 := by
  induction k with
  | zero => rfl
  | succ k ih => rw [List.replicate_succ, Lib.repeatL, ih]; rfl
theorem rp_of (k : Nat) (hk : k ≤ 100000) (wx : World) : Calls Tryz.prog 109 #[.string ⟨#[48]⟩, .int .i64 (k : Int)] wx fun e w' => e = .returned (.string ⟨(List.replicate k 48).toArray⟩) ∧ Keep wx w' := by
  have h := Tryz.strings_Repeat ⟨#[48]⟩ k wx (by omega) (by show 1 * k ≤ _; omega)
  have e2 : (ByteArray.mk #[48]).data.toList = [48] := rfl
  rw [e2, rep0] at h
  exact h
theorem two_limbs (k K : Nat) (h : k ≤ 32 * K) : (2 : Nat) ^ k ≤ 4294967296 ^ K := by
  rw [show (4294967296 : Nat) = 2 ^ 32 from rfl, ← Nat.pow_mul]
  exact Nat.pow_le_pow_right (by omega) h
theorem five_two (k : Nat) : (5 : Nat) ^ k ≤ 2 ^ (3 * k) := by
  rw [Nat.pow_mul]
  exact Nat.pow_le_pow_left (by omega) k
/-- What is asked of Print. -/
def PrD : Prop := ∀ (a : Option Addr) (ca : Nat) (l : List Nat) (w : World), l.length ≤ ca → l.length ≤ 1000 → Rd w a l → Lim l → Calls Tryz.prog 107 #[.slice a l.length ca] w fun e w' => e = .returned (.string ⟨(dD (val l)).toArray⟩) ∧ Keep w w'
set_option maxRecDepth 100000 in
set_option maxHeartbeats 1000000 in
theorem exact_any (hPr : PrD) (m : Nat) (e : Int) (w : World) (hm0 : 0 < m) (hm : m < 9007199254740992) (he : -1074 ≤ e ∧ e ≤ 971) (hT : Bi.Tab w) :
    Calls Tryz.prog 65 #[.int .u64 (m : Nat), .int .i64 e] w fun r w' => ∃ (m' : Nat) (e' : Int) (j : Nat), m = m' * 2 ^ j ∧ e' = e + (j : Int) ∧ (-1074 ≤ e' ∧ e' ≤ 971) ∧ r = .returned (.string ⟨(exD m' e').toArray⟩) ∧ Keep w w' := by
  have hZ := Bi.tz_any m (by omega) (by omega) w hT
  obtain ⟨K, hK⟩ : ∃ K, Lib.ctz 64 m = K := ⟨_, rfl⟩
  rw [hK] at hZ
  have hwe : IntKind.i64.wrap (-e) = -e := by rw [IntWalk.i64_left]; exact IntWalk.wrap64_in _ (by omega)
  go_enter Tryz.func65, Tryz.ntmps65
  go_upto_if 17 with (go_at_call 105; refine hZ.mono ?_; rintro r w1 ⟨rfl, hw1⟩; rw [hw1]; clear hw1 w1)
  have hspec : ∃ q, m = (2 * q + 1) * 2 ^ K ∧ K < 64 := by
    obtain ⟨q, h1, h2⟩ := Lib.ctzFrom_spec 64 m (by omega) (by omega)
    have e1 : Lib.ctz 64 m = Lib.ctzFrom 64 m := by unfold Lib.ctz; rw [if_neg (by omega)]
    rw [e1] at hK
    rw [hK] at h1 h2
    exact ⟨q, by rw [Nat.mul_comm]; exact h1, h2⟩
  clear hK hZ
  have HE : Hid (-1074 ≤ e ∧ e ≤ 971) := he
  have HM : Hid (0 < m ∧ m < 9007199254740992) := ⟨hm0, hm⟩
  go_cut [0, 1, 5, 15, 16] from 17 to 23 (fun s0 s1 s5 s15 s16 wx => w = wx ∧ ∃ (m1 : Nat) (e1 : Int), s0 = .int .u64 (m1 : Nat) ∧ s1 = .int .i64 e1 ∧ Hid (∃ j : Nat, m = m1 * 2 ^ j ∧ e1 = e + (j : Int) ∧ (j = 0 ∨ e1 ≤ 0)))
  case first =>
    by_cases hp : 0 < min (K : Int) (-e)
    · obtain ⟨n, hn⟩ : ∃ n : Nat, min (K : Int) (-e) = (n : Int) := ⟨(min (K : Int) (-e)).toNat, by omega⟩
      have hnK : n ≤ K := by omega
      have hne : (n : Int) ≤ -e := by omega
      have hn0 : (0 : Int) < (n : Int) := by omega
      obtain ⟨q, hq, hK64⟩ := hspec
      have hdiv : m = (m / 2 ^ n) * 2 ^ n := by
        have : 2 ^ n ∣ m := by
          rw [hq]
          exact Nat.dvd_trans (Nat.pow_dvd_pow 2 hnK) (Nat.dvd_mul_left _ _)
        exact (Nat.div_mul_cancel this).symm
      have hwn : IntKind.i64.wrap (e + (n : Int)) = e + (n : Int) := by rw [IntWalk.i64_left]; exact IntWalk.wrap64_in _ (by omega)
      have HD : Hid (m = (m / 2 ^ n) * 2 ^ n ∧ e + (n : Int) ≤ 0) := ⟨hdiv, by omega⟩
      rw [hn]
      clear hdiv hq hp hn
      go_wp2_with fail
      go_meet
      case rel => exact ⟨rfl, m / 2 ^ n, e + (n : Int), by simp, rfl, n, HD.out.1, rfl, .inr HD.out.2⟩
    · have HD : Hid (m = m * 2 ^ 0) := by simp [Hid]
      have hp2 : decide (0 < min (K : Int) (-e)) = false := by simpa using hp
      clear hspec
      go_wp2_with fail
      go_meet
      case rel => exact ⟨rfl, m, e, rfl, rfl, 0, HD.out, by simp, .inl rfl⟩
  case rest =>
    obtain ⟨rfl, m1, e1, rfl, rfl, HJ⟩ := hcut
    have hm1 : 0 < m1 ∧ m1 < 9007199254740992 := by
      obtain ⟨j, h1, -⟩ := HJ.out
      have h2 := HM.out
      have h3 : 0 < 2 ^ j := Nat.two_pow_pos j
      refine ⟨Nat.pos_of_ne_zero (fun q => by rw [q] at h1; omega), ?_⟩
      have : m1 * 1 ≤ m1 * 2 ^ j := Nat.mul_le_mul_left _ h3
      omega
    have he1 : -1074 ≤ e1 ∧ e1 ≤ 971 := by
      obtain ⟨j, -, h1, h2⟩ := HJ.out
      have := HE.out
      omega
    have HE1 : Hid (-1074 ≤ e1 ∧ e1 ≤ 971) := he1
    have hF := fun wx => From_any m1 wx (by omega)
    by_cases hpos : 0 ≤ e1
    · obtain ⟨k, hk⟩ : ∃ k : Nat, e1 = (k : Int) := ⟨e1.toNat, by omega⟩
      have hkb : k ≤ 971 := by omega
      have hge : (0 : Int) ≤ (k : Int) := by omega
      rw [hk]
      have HKE : Hid (e1 = (k : Int)) := hk
      clear hk hpos he1
      go_wp2_with fail
      refine (hF _).mono ?_
      rintro r w3 ⟨v3, l3, rfl, o3, m3, p3, e3, k3⟩
      obtain ⟨a3, c3, rfl, hc3, r3⟩ := o3.shape
      have j3 : l3.length ≤ 2 := len_le_pow p3 2 (by rw [e3]; show m1 < 18446744073709551616; omega)
      go_wp2_with fail
      refine (Up_any a3 c3 k l3 w3 hc3 (by omega) (by omega) r3 m3).mono ?_
      rintro r w4 ⟨v4, rfl, n4, k4⟩
      obtain ⟨a4, c4, l4, rfl, hc4, r4, m4, p4, e4, -⟩ := n4.shape
      have j4 : l4.length ≤ 33 := len_le_pow p4 33 (by
        rw [e4, e3]
        have q1 := two_limbs k 31 (by omega)
        have q2 : m1 * 2 ^ k ≤ m1 * 4294967296 ^ 31 := Nat.mul_le_mul_left _ q1
        have q3 : m1 * 4294967296 ^ 31 < 4294967296 ^ 2 * 4294967296 ^ 31 := Nat.mul_lt_mul_of_pos_right (by show m1 < 18446744073709551616; omega) (Nat.pow_pos (by omega))
        exact Nat.lt_of_le_of_lt q2 q3)
      go_wp2_with fail
      refine (hPr a4 c4 l4 w4 hc4 (by omega) r4 m4).mono ?_
      rintro r w5 ⟨rfl, k5⟩
      go_wp2_with fail
      go_ret
      obtain ⟨j, h1, h2, h3⟩ := HJ.out
      refine ⟨m1, e1, j, h1, h2, HE1.out, ?_, (k3.trans k4).trans k5⟩
      unfold exD
      rw [HKE.out, if_pos (by omega)]
      rfl
    · obtain ⟨k, hk⟩ : ∃ k : Nat, e1 = -(k : Int) := ⟨(-e1).toNat, by omega⟩
      have hkb : 0 < k ∧ k ≤ 1074 := by omega
      have hge : ¬ (0 : Int) ≤ -(k : Int) := by omega
      rw [hk]
      have HKE : Hid (e1 = -(k : Int)) := hk
      clear hk hpos he1
      have hF5 := fun wx => From_any 5 wx (by omega)
      have hwk : IntKind.i64.wrap (-(-(k : Int))) = (k : Int) := by rw [Int.neg_neg, IntWalk.i64_left]; exact IntWalk.wrap64_in _ (by omega)
      go_wp2_with fail
      refine (hF5 _).mono ?_
      rintro r w3 ⟨v3, l3, rfl, o3, m3, p3, e3, k3⟩
      obtain ⟨a3, c3, rfl, hc3, r3⟩ := o3.shape
      have j3 : l3.length ≤ 1 := len_le_pow p3 1 (by rw [e3]; decide)
      go_wp2_with fail
      have hpE : powE l3 (k : Int) = 0 := by
        unfold powE
        have q := lenB_max m3
        have q2 : lenB l3 * k ≤ 32 * k := Nat.mul_le_mul_right k (by omega)
        rw [if_neg (by omega), if_neg (by
          have e : ((lenB l3 : Int) * (k : Int)) = ((lenB l3 * k : Nat) : Int) := by simp
          rw [e]
          omega)]
      have hpV : powV l3 (k : Int) = 5 ^ k := by
        unfold powV
        have q := lenB_max m3
        have q2 : lenB l3 * k ≤ 32 * k := Nat.mul_le_mul_right k (by omega)
        rw [if_neg (by omega), if_neg (by
          have e : ((lenB l3 : Int) * (k : Int)) = ((lenB l3 * k : Nat) : Int) := by simp
          rw [e]
          omega), e3]
        rfl
      have cP := Pow_any a3 c3 (k : Int) l3 w3 hc3 (by omega) r3 m3
      rw [hpE, hpV] at cP
      refine cP.mono ?_
      rintro r w4 ⟨a4, c4, l4, rfl, hc4, r4, m4, p4, e4, k4⟩
      have j4 : l4.length ≤ 102 := len_le_pow p4 102 (by
        rw [e4]
        have q1 := two_limbs (3 * k) 101 (by omega)
        exact Nat.lt_of_le_of_lt (Nat.le_trans (five_two k) q1) (Nat.pow_lt_pow_right (by omega) (by omega)))
      clear cP hpE hpV
      go_wp2_with fail
      refine (hF _).mono ?_
      rintro r w5 ⟨v5, l5, rfl, o5, m5, p5, e5, k5⟩
      obtain ⟨a5, c5, rfl, hc5, r5⟩ := o5.shape
      have j5 : l5.length ≤ 2 := len_le_pow p5 2 (by rw [e5]; show m1 < 18446744073709551616; omega)
      go_wp2_with fail
      refine (Mul_any a5 a4 c5 c4 l5 l4 w5 hc5 hc4 (by omega) (by omega) r5 (r4.keep k5) m5 m4).mono ?_
      rintro r w6 ⟨v6, rfl, n6, k6⟩
      obtain ⟨a6, c6, l6, rfl, hc6, r6, m6, p6, e6, -⟩ := n6.natR.shape
      have j6 : l6.length ≤ 104 := len_le_pow p6 104 (by
        rw [e6]
        have q1 := val_lt m5
        have q2 := val_lt m4
        have q3 : (4294967296 : Nat) ^ l5.length ≤ 4294967296 ^ 2 := Nat.pow_le_pow_right (by omega) j5
        have q4 : (4294967296 : Nat) ^ l4.length ≤ 4294967296 ^ 102 := Nat.pow_le_pow_right (by omega) j4
        have q5 : val l5 * val l4 < 4294967296 ^ 2 * 4294967296 ^ 102 := Nat.mul_lt_mul_of_lt_of_le (Nat.lt_of_lt_of_le q1 q3) (Nat.le_of_lt (Nat.lt_of_lt_of_le q2 q4)) (Nat.pow_pos (by omega))
        exact q5)
      rw [e5, e4] at e6
      have cQ := hPr a6 c6 l6 w6 hc6 (by omega) r6 m6
      rw [e6] at cQ
      go_wp2_with fail
      refine cQ.mono ?_
      rintro r w7 ⟨rfl, k7⟩
      have K7 : Hid (Keep w w7) := (((k3.trans k4).trans k5).trans k6).trans k7
      have hdl : (dD (m1 * 5 ^ k)).length ≤ 1100 := by
        obtain ⟨Z, hZ⟩ : ∃ Z, Z = 1099 := ⟨_, rfl⟩
        rw [show 1100 = Z + 1 by omega]
        apply dD_len Z
        have q1 : (5 : Nat) ^ k ≤ 10 ^ k := Nat.pow_le_pow_left (by omega) k
        have q2 : m1 * 5 ^ k ≤ m1 * 10 ^ k := Nat.mul_le_mul_left _ q1
        have q3 : m1 * 10 ^ k < 10 ^ 16 * 10 ^ k := Nat.mul_lt_mul_of_pos_right (by show m1 < 10000000000000000; omega) (Nat.pow_pos (by omega))
        rw [← Nat.pow_add] at q3
        exact Nat.lt_of_lt_of_le (Nat.lt_of_le_of_lt q2 q3) (Nat.pow_le_pow_right (by omega) (by omega))
      obtain ⟨d, hd⟩ : ∃ d, dD (m1 * 5 ^ k) = d := ⟨_, rfl⟩
      rw [hd] at hdl
      rw [hd]
      have HDD : Hid (dD (m1 * 5 ^ k) = d) := hd
      clear hd cQ k3 k4 k5 k6 k7 r3 r4 r5 r6 e6 e5 e4 e3
      obtain ⟨L, hL⟩ : ∃ L, d.length = L := ⟨_, rfl⟩
      rw [hL] at hdl
      have s1 : (ByteArray.mk d.toArray).size = L := by rw [sz_mk, hL]
      obtain ⟨z, hz⟩ : ∃ z, k + 1 - L = z := ⟨_, rfl⟩
      have hw48 : IntKind.i64.wrap (1 - -(k : Int)) = (k : Int) + 1 := by rw [show (1 : Int) - -(k : Int) = (k : Int) + 1 by omega, IntWalk.i64_left]; exact IntWalk.wrap64_in _ (by omega)
      have hw48b : IntKind.i64.wrap (1 + (k : Int)) = (k : Int) + 1 := by rw [show (1 : Int) + (k : Int) = (k : Int) + 1 by omega, IntWalk.i64_left]; exact IntWalk.wrap64_in _ (by omega)
      have hw51 : IntKind.i64.wrap ((k : Int) + 1 - (L : Int)) = (k : Int) + 1 - (L : Int) := by rw [IntWalk.i64_left]; exact IntWalk.wrap64_in _ (by omega)
      have hmax : max (0 : Int) ((k : Int) + 1 - (L : Int)) = (z : Int) := by omega
      have hRp := fun wx => rp_of z (by omega) wx
      have hcat : (ByteArray.mk (List.replicate z (48 : UInt8)).toArray) ++ (ByteArray.mk d.toArray) = ByteArray.mk (exZ k d).toArray := by
        rw [catB]
        unfold exZ
        rw [hL, hz]
      obtain ⟨R, hR⟩ : ∃ R, List.replicate z (48 : UInt8) = R := ⟨_, rfl⟩
      rw [hR] at hRp hcat
      have s3 : (ByteArray.mk R.toArray).size = z := by rw [sz_mk, ← hR, List.length_replicate]
      clear hR
      have hZl := exZ_len k d
      have hZl2 : (exZ k d).length ≤ 3000 := by
        unfold exZ
        rw [List.length_append, List.length_replicate, hL]
        omega
      obtain ⟨D, hD⟩ : ∃ D, exZ k d = D := ⟨_, rfl⟩
      rw [hD] at hcat hZl hZl2
      have HD : Hid (exZ k d = D) := hD
      obtain ⟨M, hM⟩ : ∃ M, D.length = M := ⟨_, rfl⟩
      rw [hM] at hZl hZl2
      have s2 : (ByteArray.mk D.toArray).size = M := by rw [sz_mk, hM]
      obtain ⟨i, hi⟩ : ∃ i, M - k = i := ⟨_, rfl⟩
      have hw60 : IntKind.i64.wrap ((M : Int) + -(k : Int)) = (i : Int) := by rw [show (M : Int) + -(k : Int) = (i : Int) by omega, IntWalk.i64_left]; exact IntWalk.wrap64_in _ (by omega)
      have hu : ∀ wx, (Instr.slice 9 (.string ⟨D.toArray⟩) none (some (.int .i64 (i : Int))) none).run Tryz.prog wx = .ok (.string ⟨(D.take i).toArray⟩) wx := fun wx => run_upto D i (by omega) wx
      have hf : ∀ wx, (Instr.slice 9 (.string ⟨D.toArray⟩) (some (.int .i64 (i : Int))) none none).run Tryz.prog wx = .ok (.string ⟨(D.drop i).toArray⟩) wx := fun wx => run_from D i (by omega) wx
      have HI : Hid (M - k = i ∧ D.length = M) := ⟨hi, hM⟩
      obtain ⟨TA, hTA⟩ : ∃ x, D.take i = x := ⟨_, rfl⟩
      obtain ⟨TB, hTB⟩ : ∃ x, D.drop i = x := ⟨_, rfl⟩
      have hA : (ByteArray.mk TA.toArray).size ≤ 3000 := by rw [sz_mk, ← hTA, List.length_take, hM]; omega
      have hB : (ByteArray.mk TB.toArray).size ≤ 3000 := by rw [sz_mk, ← hTB, List.length_drop, hM]; omega
      have hAB : (ByteArray.mk TA.toArray ++ (⟨#[46]⟩ : ByteArray)).size ≤ 3001 := by rw [ByteArray.size_append, show (⟨#[46]⟩ : ByteArray).size = 1 from rfl]; omega
      have hABC : (ByteArray.mk TA.toArray ++ (⟨#[46]⟩ : ByteArray) ++ ByteArray.mk TB.toArray).size ≤ 6001 := by rw [ByteArray.size_append]; omega
      have hAl : TA.length ≤ 3000 := by rw [← hTA, List.length_take, hM]; omega
      have hBl : TB.length ≤ 3000 := by rw [← hTB, List.length_drop, hM]; omega
      have hiw : IntKind.i64.wrap (i : Int) = (i : Int) := by rw [IntWalk.i64_left]; exact IntWalk.wrap64_in _ (by omega)
      have him : (M : Int) + -(k : Int) = (i : Int) := by omega
      have hil : i ≤ 3000 := by omega
      rw [hTA] at hu
      rw [hTB] at hf
      have HT : Hid (D.take i = TA ∧ D.drop i = TB) := ⟨hTA, hTB⟩
      clear hTA hTB
      clear hz hL hD hM hi hZl
      go_wp2_with fail
      refine (hRp _).mono ?_
      rintro r w8 ⟨rfl, k8⟩
      have K8 : Hid (Keep w w8) := K7.out.trans k8
      clear hRp k8
      go_wp2_with fail
      go_region_with (fail)
      go_simp
      go_wp2_with fail
      go_ret
      obtain ⟨j, h1, h2, h3⟩ := HJ.out
      refine ⟨m1, e1, j, h1, h2, HE1.out, ?_, by first | exact K8.out | exact K8.out.drew | exact K8.out.drewN _⟩
      unfold exD
      rw [HKE.out, if_neg (by omega), show (-(-(k : Int))).toNat = k by omega, HDD.out, HD.out, HI.out.2, HI.out.1, HT.out.1, HT.out.2]
      have q : ByteArray.mk TA.toArray ++ (⟨#[46]⟩ : ByteArray) ++ ByteArray.mk TB.toArray = ⟨(TA ++ 46 :: TB).toArray⟩ := by
        rw [show (⟨#[46]⟩ : ByteArray) = ⟨([46] : List UInt8).toArray⟩ from rfl, catB, catB]
        simp
      rw [← q]
      rfl
end Go.Proofs.YtpdjpjkieafnbaaGreatDoor.Li
set_option linter.unusedVariables false
set_option linter.unusedSimpArgs false
namespace Go.Proofs.YtpdjpjkieafnbaaGreatDoor.Li
open Go.RowKit Lb
/-- A natural in a block of a run of blocks. -/
def NatQ (B C : Nat) (w : World) (v : Value) (n : Nat) : Prop := ∃ l, ((v = .slice none 0 0 ∧ l = []) ∨ ∃ g r, v = .slice (some ⟨g, 0, none⟩) l.length r.length ∧ B ≤ g ∧ g < C ∧ Row w g r ∧ l.length ≤ r.length ∧ r.take l.length = l) ∧ Lim l ∧ Nrm l ∧ val l = n
theorem NatQ.nil (B C : Nat) (w : World) : NatQ B C w (.slice none 0 0) 0 := ⟨[], .inl ⟨rfl, rfl⟩, by intro x hx; simp at hx, by simp [Nrm], rfl⟩
set_option maxRecDepth 100000 in
set_option maxHeartbeats 800000 in
theorem Over_full_own (neg : Bool) (a b : Option Addr) (ca cb : Nat) (la lb : List Nat) (w : World) (hca : la.length ≤ ca) (hcb : lb.length ≤ cb) (hla : la.length ≤ 70368744177663) (hlb : lb.length ≤ 70368744177663) (hra : Rd w a la) (hrb : Rd w b lb)
    (hma : Lim la) (hmb : Lim lb) (hb0 : nl lb ≠ 0) (ha0 : nl la ≠ 0) :
    Calls Tryz.prog 40 #[.bool neg, .slice a la.length ca, .slice b lb.length cb] w fun e w' => ∃ M vn vd, e = .returned (.tuple #[.agg #[.bool neg, vn, vd], .int .i64 0]) ∧ w.heap.size ≤ M ∧ M ≤ w'.heap.size ∧ NatQ w.heap.size M w' vn (val la / Nat.gcd (val la) (val lb)) ∧ NatQ M w'.heap.size w' vd (val lb / Nat.gcd (val la) (val lb)) ∧ Keep w w' := by
  have hk : Keep w (w.alloc (Obj.cells #[Value.bool false, Value.slice none 0 0, Value.slice none 0 0] 54)) := (Keep.refl w).alloc _
  have hbox := Box.new w (Value.bool false) (Value.slice none 0 0) (Value.slice none 0 0)
  have t1 := trim_any a ca la _ hca (by omega) (hra.keep hk)
  have t2 := trim_any b cb lb _ hcb (by omega) (hrb.keep hk)
  have h0 : ((nl lb : Int) == 0) = false := by simp; omega
  have h0' : ((nl la : Int) == 0) = false := by simp; omega
  have l1 := nl_le la
  have l2 := nl_le lb
  have e1 : (la.take (nl la)).length = nl la := by simp; omega
  have e2 : (lb.take (nl lb)).length = nl lb := by simp; omega
  have a0 : la.take (nl la) ≠ [] := by intro h; rw [h] at e1; simp at e1; omega
  have b0 : lb.take (nl lb) ≠ [] := by intro h; rw [h] at e2; simp at e2; omega
  have va := val_take_nl la
  have vb := val_take_nl lb
  have na := Nrm_take la
  have nb := Nrm_take lb
  have ma := Lim_take hma (nl la)
  have mb := Lim_take hmb (nl lb)
  have ra := hra.take (nl la)
  have rb := hrb.take (nl lb)
  have vb0 : 0 < val lb := by
    rw [← vb]
    have h1 := val_ge nb b0
    have h2 : 0 < 4294967296 ^ ((lb.take (nl lb)).length - 1) := Nat.pos_of_ne_zero (by simp)
    omega
  generalize la.take (nl la) = x at *
  generalize lb.take (nl lb) = y at *
  go_enter Tryz.func40, Tryz.ntmps40
  go_wp2_with fail
  refine t1.mono ?_
  rintro e w' ⟨rfl, rfl⟩
  go_wp2_with fail
  refine t2.mono ?_
  rintro e w' ⟨rfl, rfl⟩
  go_wp2_with fail
  clear t1 t2
  generalize w.alloc _ = w1 at hk hbox ⊢
  have g1 := divisor_all a b ca cb x y w1 (by omega) (by omega) (by omega) (by omega) (ra.keep hk) (rb.keep hk) ma mb na nb
  rw [e1, e2, va, vb] at g1
  refine g1.mono ?_
  rintro e w2 ⟨v, rfl, hg, hk2⟩
  obtain ⟨ag, cg, lg, rfl, hcg, hrg, hmg, ng, hvg, -⟩ := hg.shape
  have hg0 : 0 < Nat.gcd (val la) (val lb) := Nat.gcd_pos_of_pos_right _ vb0
  have lg0 : lg ≠ [] := by intro h; rw [h] at hvg; simp [val] at hvg; omega
  have lgl : lg.length ≤ y.length := by
    rcases Nat.lt_or_ge y.length lg.length with h | h
    · have h1 := len_lt_val mb ng h
      have h2 := Nat.gcd_le_right (val la) vb0
      omega
    · exact h
  have hk02 := hk.trans hk2
  have d1 := divide_all a ag ca cg x lg w2 (by omega) (by omega) (ra.keep hk02) hrg ma hmg na ng lg0
  rw [e1, va, hvg] at d1
  clear g1 hg
  go_wp2_with fail
  refine d1.mono ?_
  rintro e w3 ⟨vq, vr, rfl, hq, hr3, hk3⟩
  obtain ⟨aq, cq, lq, rfl, -⟩ := hq.shape
  obtain ⟨ar3, cr3, lr3, rfl, -⟩ := hr3.shape
  have hk03 := hk02.trans hk3
  have d2 := divide_all b ag cb cg y lg w3 (by omega) (by omega) (rb.keep hk03) (hrg.keep hk3) mb hmg nb ng lg0
  rw [e2, vb, hvg] at d2
  clear d1
  go_wp2_with fail
  refine d2.mono ?_
  rintro e w4 ⟨vq2, vr2, rfl, hq2, hr4, hk4⟩
  obtain ⟨aq2, cq2, lq2, rfl, -⟩ := hq2.shape
  obtain ⟨ar4, cr4, lr4, rfl, -⟩ := hr4.shape
  have hk04 := hk03.trans hk4
  have hbox4 := ((hbox.keep hk2).keep hk3).keep hk4
  obtain ⟨c0, c1, c2⟩ := hbox4.cells
  have f0 := hbox4.free 0
  have f1 := hbox4.free 1
  have f2 := hbox4.free 2
  clear d2
  have hsz : w.heap.size < w4.heap.size := (Array.getElem?_eq_some_iff.1 hbox4).1
  go_wp2
  have hs1 : w.heap.size < w1.heap.size := (Array.getElem?_eq_some_iff.1 hbox).1
  have hs2 := hk2.le
  have hs3 := hk3.le
  refine bodyPost_ret (v := .tuple #[.agg #[.bool neg, .slice aq lq.length cq, .slice aq2 lq2.length cq2], .int .i64 0]) (by simp [results, Tryz.results40, go_sem, World.cell?_setCell_other, World.cell?_setCell_same, c0, c1, c2]) rfl ⟨w3.heap.size, _, _, rfl, by have := hk.le; omega, by have := hk4.le; simpa using this, ?_, ?_, ?_⟩
  · obtain ⟨l, h1, h2⟩ := hq
    refine ⟨l, ?_, h2⟩
    rcases h1 with h | ⟨g, r, e, hb, hr, q1, q2⟩
    · exact .inl h
    · have hlt := hr.lt
      exact .inr ⟨g, r, e, by omega, hlt, (((hr.keep hk4).mut ((Mut.refl _ _).setCell _ _) (by omega)).mut ((Mut.refl _ _).setCell _ _) (by omega)).mut ((Mut.refl _ _).setCell _ _) (by omega), q1, q2⟩
  · obtain ⟨l, h1, h2⟩ := hq2
    refine ⟨l, ?_, h2⟩
    rcases h1 with h | ⟨g, r, e, hb, hr, q1, q2⟩
    · exact .inl h
    · have hlt := hr.lt
      exact .inr ⟨g, r, e, hb, by simpa using hlt, ((hr.mut ((Mut.refl _ _).setCell _ _) (by omega)).mut ((Mut.refl _ _).setCell _ _) (by omega)).mut ((Mut.refl _ _).setCell _ _) (by omega), q1, q2⟩
  · exact ((hk04.setCell (Nat.le_refl _) _).setCell (Nat.le_refl _) _).setCell (Nat.le_refl _) _
set_option maxRecDepth 100000 in
set_option maxHeartbeats 800000 in
theorem Over_nought_own (neg : Bool) (a b : Option Addr) (ca cb : Nat) (la lb : List Nat) (w : World) (hca : la.length ≤ ca) (hcb : lb.length ≤ cb) (hla : la.length ≤ 70368744177663) (hlb : lb.length ≤ 70368744177663) (hra : Rd w a la) (hrb : Rd w b lb)
    (hb0 : nl lb ≠ 0) (ha0 : nl la = 0) :
    Calls Tryz.prog 40 #[.bool neg, .slice a la.length ca, .slice b lb.length cb] w fun e w' => ∃ M vn vd, e = .returned (.tuple #[.agg #[.bool false, vn, vd], .int .i64 0]) ∧ w.heap.size ≤ M ∧ M ≤ w'.heap.size ∧ NatQ w.heap.size M w' vn 0 ∧ NatQ M w'.heap.size w' vd 1 ∧ Keep w w' := by
  have hk : Keep w (w.alloc (Obj.cells #[Value.bool false, Value.slice none 0 0, Value.slice none 0 0] 54)) := (Keep.refl w).alloc _
  have hbox := Box.new w (Value.bool false) (Value.slice none 0 0) (Value.slice none 0 0)
  have t1 := trim_any a ca la _ hca (by omega) (hra.keep hk)
  have t2 := trim_any b cb lb _ hcb (by omega) (hrb.keep hk)
  have h0 : ((nl lb : Int) == 0) = false := by simp; omega
  have h0' : ((nl la : Int) == 0) = true := by simp; omega
  clear hb0 ha0
  go_enter Tryz.func40, Tryz.ntmps40
  go_wp2_with fail
  refine t1.mono ?_
  rintro e w' ⟨rfl, rfl⟩
  go_wp2_with fail
  refine t2.mono ?_
  rintro e w' ⟨rfl, rfl⟩
  go_wp2_with fail
  refine bodyPost_ret (v := .tuple #[.agg #[.bool false, .slice none 0 0, .slice (some ⟨w.heap.size + 1, 0, none⟩) 1 1], .int .i64 0]) (by simp [results, Tryz.results40, go_sem]) rfl ⟨w.heap.size, .slice none 0 0, .slice (some ⟨w.heap.size + 1, 0, none⟩) 1 1, rfl, Nat.le_refl _, by simp; omega, NatQ.nil _ _ _, ?_, ((Keep.refl w).alloc _).alloc _⟩
  have h := heap_alloc_new (w.alloc (Obj.cells #[Value.bool false, Value.slice none 0 0, Value.slice (some ⟨w.heap.size + 1, 0, none⟩) 1 1] 54)) (Obj.cells #[Value.int IntKind.u32 1] 40)
  have hz : (w.alloc (Obj.cells #[Value.bool false, Value.slice none 0 0, Value.slice (some ⟨w.heap.size + 1, 0, none⟩) 1 1] 54)).heap.size = w.heap.size + 1 := by simp
  rw [hz] at h
  exact ⟨[1], .inr ⟨w.heap.size + 1, [1], rfl, by omega, by simp, h, by simp, rfl⟩, by intro x hx; simp at hx; omega, by simp [Nrm], rfl⟩
end Go.Proofs.YtpdjpjkieafnbaaGreatDoor.Li
set_option linter.unusedVariables false
set_option linter.unusedSimpArgs false
namespace Go.Proofs.YtpdjpjkieafnbaaGreatDoor.Li
open Go.RowKit Lb
/-- A number as a quotient: is it none, its sign, its numerator, its denominator. -/
def qB (b : Nat) : Bool := decide (pKind b = 3 ∨ pKind b = 4)
def qX (b : Nat) : Nat := pM b * 2 ^ (pE b).toNat
def qY (b : Nat) : Nat := 1 * 2 ^ (-(pE b)).toNat
def qZ (b : Nat) : Int := if qB b then 60 else 0
def qS (b : Nat) : Bool := !(qB b) && !(decide (qX b = 0)) && pNeg b
def qN (b : Nat) : Nat := if qB b then 0 else qX b / Nat.gcd (qX b) (qY b)
def qD (b : Nat) : Nat := if qB b then 0 else qY b / Nat.gcd (qX b) (qY b)
theorem NatQ.lt {B C : Nat} {w : World} {v : Value} {n : Nat} (h : NatQ B C w v n) (hC : C ≤ w.heap.size) : True := trivial
theorem NatQ.shape {B C : Nat} {w : World} {v : Value} {n : Nat} (h : NatQ B C w v n) : ∃ a l c, v = .slice a l c := by
  obtain ⟨l, (h | ⟨g, r, e, _⟩), _⟩ := h
  · exact ⟨none, 0, 0, h.1⟩
  · exact ⟨_, _, _, e⟩
/-- Blocks of a run stay as they were. -/
theorem NatQ.same {B C : Nat} {w w' : World} {v : Value} {n : Nat} (h : NatQ B C w v n) (e : ∀ i, B ≤ i → i < C → w'.heap[i]? = w.heap[i]?) : NatQ B C w' v n := by
  obtain ⟨l, h1, h2⟩ := h
  refine ⟨l, ?_, h2⟩
  rcases h1 with h | ⟨g, r, e1, hb, hc, hr, q⟩
  · exact .inl h
  · exact .inr ⟨g, r, e1, hb, hc, (e g hb hc).trans hr, q⟩
theorem NatQ.mono {B C B' C' : Nat} {w : World} {v : Value} {n : Nat} (h : NatQ B C w v n) (hB : B' ≤ B) (hC : C ≤ C') : NatQ B' C' w v n := by
  obtain ⟨l, h1, h2⟩ := h
  refine ⟨l, ?_, h2⟩
  rcases h1 with h | ⟨g, r, e1, hb, hc, q⟩
  · exact .inl h
  · exact .inr ⟨g, r, e1, by omega, by omega, q⟩
theorem pE_in (b : Nat) : -1074 ≤ pE b ∧ pE b ≤ 971 := by
  unfold pE
  have hf : pField b < 2048 := Nat.mod_lt _ (by omega)
  (repeat' split) <;> omega
theorem pM_lt (b : Nat) : pM b < 9007199254740992 := by
  unfold pM
  have hk : pKept b < 4503599627370496 := Nat.mod_lt _ (by omega)
  split <;> omega
/-- Over, of any two naturals, in memory of its own. -/
theorem Over_own (neg : Bool) (v1 v2 : Value) (N D K : Nat) (w : World) (h1 : Lv w v1 N K) (h2 : Lv w v2 D K) (hK : K ≤ 70368744177663) (hD : 0 < D) :
    Calls Tryz.prog 40 #[.bool neg, v1, v2] w fun e w' => ∃ M vn vd, e = .returned (.tuple #[.agg #[.bool (!(decide (N = 0)) && neg), vn, vd], .int .i64 0]) ∧ w.heap.size ≤ M ∧ M ≤ w'.heap.size ∧ NatQ w.heap.size M w' vn (N / Nat.gcd N D) ∧ NatQ M w'.heap.size w' vd (D / Nat.gcd N D) ∧ Keep w w' := by
  obtain ⟨a, c, l, rfl, p1, p2, p3, p4, p5⟩ := h1
  obtain ⟨b, d, r, rfl, q1, q2, q3, q4, q5⟩ := h2
  have hr : nl r ≠ 0 := fun h => by have := nl_val.1 h; omega
  by_cases hN : N = 0
  · have hl : nl l = 0 := nl_val.2 (by omega)
    refine (Over_nought_own neg a b c d l r w p1 q1 (by omega) (by omega) p3 q3 hr hl).mono ?_
    rintro e w' ⟨M, vn, vd, rfl, k1, k2, k3, k4, k5⟩
    refine ⟨M, vn, vd, by rw [decide_eq_true hN]; rfl, k1, k2, ?_, ?_, k5⟩
    · rw [hN, Nat.zero_div]; exact k3
    · rw [hN, Nat.gcd_zero_left, Nat.div_self hD]; exact k4
  · have hl : nl l ≠ 0 := fun h => by have := nl_val.1 h; omega
    refine (Over_full_own neg a b c d l r w p1 q1 (by omega) (by omega) p3 q3 p4 q4 hr hl).mono ?_
    rintro e w' ⟨M, vn, vd, rfl, k1, k2, k3, k4, k5⟩
    rw [p5, q5] at k3 k4
    exact ⟨M, vn, vd, by rw [decide_eq_false hN]; rfl, k1, k2, k3, k4, k5⟩
theorem results_rat {fn : Func} {t u : Tmp} (h : fn.results = #[.cell t 54, .tmp u]) (tmps : Array Value) (w : World) (g : Nat) (x y z : Value) (hp : tmps.getD t undef = .pointer (some ⟨g, 0, none⟩)) (hh : Box w g x y z) :
    (results fn tmps).run Tryz.prog w = .ok (.tuple #[.agg #[x, y, z], tmps.getD u undef]) w := by
  obtain ⟨c0, c1, c2⟩ := hh.cells
  have hp' : (tmps[t]?).getD undef = .pointer (some ⟨g, 0, none⟩) := by simpa using hp
  simp [results, h, hp, hp', go_sem, c0, c1, c2]
set_option maxRecDepth 100000 in
set_option maxHeartbeats 1000000 in
theorem Quotient_own (b : Nat) (hb : b < 18446744073709551616) (w : World) :
    Calls Tryz.prog 32 #[.float .f64 b] w fun e w' => ∃ M vn vd, e = .returned (.tuple #[.agg #[.bool (qS b), vn, vd], .int .i64 (qZ b)]) ∧ w.heap.size ≤ M ∧ M ≤ w'.heap.size ∧ NatQ w.heap.size M w' vn (qN b) ∧ NatQ M w'.heap.size w' vd (qD b) ∧ Keep w w' := by
  have hP := fun wx => Parts_any b hb wx
  have hk5 : pKind b ≤ 4 := by unfold pKind; (repeat' split) <;> omega
  obtain ⟨w0, hw0⟩ : ∃ w0, w.alloc (.cells #[.bool false, .slice none 0 0, .slice none 0 0] 54) = w0 := ⟨_, rfl⟩
  have B0 : Hid (Box w0 w.heap.size (.bool false) (.slice none 0 0) (.slice none 0 0)) := by unfold Hid; rw [← hw0]; exact Box.new w _ _ _
  have K0 : Hid (Keep w w0) := by unfold Hid; rw [← hw0]; exact (Keep.refl w).alloc _
  have Z0 : Hid (w0.heap.size = w.heap.size + 1) := by unfold Hid; rw [← hw0]; simp
  by_cases hq : qB b = true
  · have e1 : qZ b = 60 := by unfold qZ; rw [hq]; rfl
    have e2 : qS b = false := by unfold qS; rw [hq]; rfl
    have e3 : qN b = 0 := by unfold qN; rw [hq]; rfl
    have e4 : qD b = 0 := by unfold qD; rw [hq]; rfl
    rw [e1, e2, e3, e4]
    have hkk := of_decide_eq_true hq
    rcases hkk with h3 | h3
    all_goals
      rw [h3] at hP
      generalize pM b = m at hP
      generalize pE b = ee at hP
      generalize pNeg b = ng at hP
      clear hk5 h3 hq e1 e2 e3 e4
      go_enter Tryz.func32, Tryz.ntmps32
      go_wp2_with fail
      refine (hP _).mono ?_
      rintro e w2 ⟨rfl, k2⟩
      have B2 := B0.out.keep k2
      obtain ⟨c0, c1, c2⟩ := B2.cells
      have f0 := B2.free 0
      have f1 := B2.free 1
      have f2 := B2.free 2
      have HB2 : Hid (Box w2 w.heap.size (.bool false) (.slice none 0 0) (.slice none 0 0)) := B2
      clear B2
      have K2 : Hid (Keep w w2) := K0.out.trans k2
      go_wp2_with fail
      have kk := ((K2.out.setCell (p := ⟨w.heap.size, 0, none⟩) (Nat.le_refl _) (.bool false)).setCell (p := ⟨w.heap.size, 1, none⟩) (Nat.le_refl _) (.slice none 0 0)).setCell (p := ⟨w.heap.size, 2, none⟩) (Nat.le_refl _) (.slice none 0 0)
      exact bodyPost_ret (results_rat rfl _ _ w.heap.size _ _ _ rfl (HB2.out.set _ _ _)) rfl ⟨w.heap.size, _, _, rfl, Nat.le_refl _, kk.le, NatQ.nil _ _ _, NatQ.nil _ _ _, kk⟩
  · have hq' : qB b = false := by simpa using hq
    have e1 : qZ b = 0 := by unfold qZ; rw [hq']; rfl
    have e2 : qS b = (!(decide (qX b = 0)) && pNeg b) := by unfold qS; rw [hq']; rfl
    have e3 : qN b = qX b / Nat.gcd (qX b) (qY b) := by unfold qN; rw [hq']; rfl
    have e4 : qD b = qY b / Nat.gcd (qX b) (qY b) := by unfold qD; rw [hq']; rfl
    rw [e1, e2, e3, e4]
    have hkk : ¬ (pKind b = 3 ∨ pKind b = 4) := of_decide_eq_false hq'
    have y3 : ((pKind b : Int) == 3) = false := by rw [beq_eq_false_iff_ne]; omega
    have y4 : ((pKind b : Int) == 4) = false := by rw [beq_eq_false_iff_ne]; omega
    have hm := pM_lt b
    have he := pE_in b
    have hF := fun wx => From_lv (pM b) wx (by omega)
    have hF1 := fun wx => From_lv 1 wx (by omega)
    have hS := fun v1 v2 wx h1 h2 => scaled_lv v1 v2 (pM b) 1 2 (pE b) wx h1 h2 (by omega) (by omega)
    rw [show pM b * 2 ^ (pE b).toNat = qX b from rfl, show 1 * 2 ^ (-(pE b)).toNat = qY b from rfl] at hS
    have hY0 : 0 < qY b := by unfold qY; rw [Nat.one_mul]; exact Nat.two_pow_pos _
    have hO := fun v1 v2 wx h1 h2 => Over_own (pNeg b) v1 v2 (qX b) (qY b) 102 wx h1 h2 (by omega) hY0
    clear e1 e2 e3 e4 hq hq' hkk hk5 hm he hY0
    generalize qX b = X at *
    generalize qY b = Y at *
    generalize pM b = m at *
    generalize pE b = ee at *
    generalize pNeg b = ng at *
    generalize pKind b = kd at *
    generalize hA : X / Nat.gcd X Y = A at *
    generalize hB : Y / Nat.gcd X Y = B at *
    clear hA hB
    generalize (!(decide (X = 0)) && ng) = sgn at *
    go_enter Tryz.func32, Tryz.ntmps32
    go_wp2_with fail
    refine (hP _).mono ?_
    rintro e w2 ⟨rfl, k2⟩
    go_wp2_with fail
    refine (hF _).mono ?_
    rintro e w3 ⟨va, rfl, hva, k3⟩
    go_wp2_with fail
    refine (hF1 _).mono ?_
    rintro e w4 ⟨vb, rfl, hvb, k4⟩
    go_wp2_with fail
    refine (hS va vb _ (hva.keep k4) hvb).mono ?_
    rintro e w5 ⟨u1, u2, rfl, hu1, hu2, k5⟩
    go_wp2_with fail
    refine (hO u1 u2 _ hu1 hu2).mono ?_
    rintro e w6 ⟨M, vn, vd, rfl, m1, m2, hvn, hvd, k6⟩
    obtain ⟨an, ln, cn, rfl⟩ := hvn.shape
    obtain ⟨ad, ld, cd, rfl⟩ := hvd.shape
    have kk : Keep w0 w6 := (((k2.trans k3).trans k4).trans k5).trans k6
    have B6 := B0.out.keep kk
    obtain ⟨c0, c1, c2⟩ := B6.cells
    have f0 := B6.free 0
    have f1 := B6.free 1
    have f2 := B6.free 2
    have HB6 : Hid (Box w6 w.heap.size (.bool false) (.slice none 0 0) (.slice none 0 0)) := B6
    have K6 : Hid (Keep w w6) := K0.out.trans kk
    have hs5 : Hid (w.heap.size < w5.heap.size) := by
      have h1 := ((((k2.trans k3).trans k4).trans k5)).le
      have h2 := Z0.out
      unfold Hid
      omega
    have HN : Hid (NatQ w5.heap.size M w6 (.slice an ln cn) A) := hvn
    have HD : Hid (NatQ M w6.heap.size w6 (.slice ad ld cd) B) := hvd
    have HM : Hid (w5.heap.size ≤ M ∧ M ≤ w6.heap.size) := ⟨m1, m2⟩
    clear B6 kk k2 k3 k4 k5 k6 hvn hvd m1 m2 hva hvb hu1 hu2
    go_wp2_with fail
    have kk := ((K6.out.setCell (p := ⟨w.heap.size, 0, none⟩) (Nat.le_refl _) (.bool sgn)).setCell (p := ⟨w.heap.size, 1, none⟩) (Nat.le_refl _) (.slice an ln cn)).setCell (p := ⟨w.heap.size, 2, none⟩) (Nat.le_refl _) (.slice ad ld cd)
    have hsame : ∀ i, w5.heap.size ≤ i → (((w6.setCell ⟨w.heap.size, 0, none⟩ (.bool sgn)).setCell ⟨w.heap.size, 1, none⟩ (.slice an ln cn)).setCell ⟨w.heap.size, 2, none⟩ (.slice ad ld cd)).heap[i]? = w6.heap[i]? := by
      intro i hi
      have := hs5.out
      rw [heap_setCell_other _ _ i _ (by show i ≠ w.heap.size; omega), heap_setCell_other _ _ i _ (by show i ≠ w.heap.size; omega), heap_setCell_other _ _ i _ (by show i ≠ w.heap.size; omega)]
    have hM := HM.out
    have h5 := hs5.out
    refine bodyPost_ret (results_rat rfl _ _ w.heap.size _ _ _ rfl (HB6.out.set _ _ _)) rfl ⟨M, _, _, rfl, by omega, by simpa using hM.2, ?_, ?_, kk⟩
    · exact (HN.out.same (fun i h1 h2 => hsame i h1)).mono (by omega) (Nat.le_refl _)
    · refine (HD.out.same (fun i h1 h2 => hsame i (by omega))).mono (Nat.le_refl _) (by simp)
end Go.Proofs.YtpdjpjkieafnbaaGreatDoor.Li
