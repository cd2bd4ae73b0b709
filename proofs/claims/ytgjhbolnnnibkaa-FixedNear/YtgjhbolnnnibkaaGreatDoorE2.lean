import Derived.Test.YtgjhbolnnnibkaaGreatDoorE0
import Derived.Test.YtgjhbolnnnibkaaGreatDoorLE7
import Derived.Test.YtgjhbolnnnibkaaGreatDoorLE3
import Derived.Test.YtgjhbolnnnibkaaGreatDoorLD6
import Derived.Test.YtgjhbolnnnibkaaGreatDoorLC6
import Derived.Test.YtgjhbolnnnibkaaGreatDoorBC2
import Derived.Deep.CutRange
set_option linter.unusedVariables false
set_option linter.unusedSimpArgs false
namespace Go.Proofs.YtgjhbolnnnibkaaGreatDoor.Li
open Go.RowKit Lb
theorem two_limbs (k K : Nat) (h : k ≤ 32 * K) : (2 : Nat) ^ k ≤ 4294967296 ^ K := by
  rw [show (4294967296 : Nat) = 2 ^ 32 from rfl, ← Nat.pow_mul]
  exact Nat.pow_le_pow_right (by omega) h
theorem five_two (k : Nat) : (5 : Nat) ^ k ≤ 2 ^ (3 * k) := by
  rw [Nat.pow_mul]
  exact Nat.pow_le_pow_left (by omega) k
/-- What is asked of Print. -/
def PrD : Prop := ∀ (a : Option Addr) (ca : Nat) (l : List Nat) (w : World), l.length ≤ ca → l.length ≤ 1000 → Rd w a l → Lim l → Calls Tryz.prog 69 #[.slice a l.length ca] w fun e w' => e = .returned (.string ⟨(Go.Proofs.YtgjhbolnnnibkaaGreatDoor.dD (val l)).toArray⟩) ∧ Keep w w'
set_option maxRecDepth 100000 in
set_option maxHeartbeats 1000000 in
theorem exact_any (hPr : PrD) (m : Nat) (e : Int) (w : World) (hm0 : 0 < m) (hm : m < 9007199254740992) (he : -1074 ≤ e ∧ e ≤ 971) (hT : Bi.Tab w) :
    Calls Tryz.prog 44 #[.int .u64 (m : Nat), .int .i64 e] w fun r w' => ∃ (m' : Nat) (e' : Int) (j : Nat), m = m' * 2 ^ j ∧ e' = e + (j : Int) ∧ (-1074 ≤ e' ∧ e' ≤ 971) ∧ r = .returned (.string ⟨(Go.Proofs.YtgjhbolnnnibkaaGreatDoor.exD m' e').toArray⟩) ∧ Keep w w' := by
  have hZ := Bi.tz_any m (by omega) (by omega) w hT
  obtain ⟨K, hK⟩ : ∃ K, Lib.ctz 64 m = K := ⟨_, rfl⟩
  rw [hK] at hZ
  have hwe : IntKind.i64.wrap (-e) = -e := by rw [IntWalk.i64_left]; exact IntWalk.wrap64_in _ (by omega)
  go_enter Tryz.func44, Tryz.ntmps44
  go_upto_if 17 with (go_at_call 67; refine hZ.mono ?_; rintro r w1 ⟨rfl, hw1⟩; rw [hw1]; clear hw1 w1)
  have hspec : ∃ q, m = (2 * q + 1) * 2 ^ K ∧ K < 64 := by
    obtain ⟨q, h1, h2⟩ := Lib.ctzFrom_spec 64 m (by omega) (by omega)
    have e1 : Lib.ctz 64 m = Lib.ctzFrom 64 m := by unfold Lib.ctz; rw [if_neg (by omega)]
    rw [e1] at hK
    rw [hK] at h1 h2
    exact ⟨q, by rw [Nat.mul_comm]; exact h1, h2⟩
  clear hK hZ
  have HE : Hid (-1074 ≤ e ∧ e ≤ 971) := he
  have HM : Hid (0 < m ∧ m < 9007199254740992) := ⟨hm0, hm⟩
  go_cut [0, 1, 5, 15, 16] from 17 to 23 (fun s0 s1 s5 s15 s16 wx => w = wx ∧ ∃ (m1 : Nat) (e1 : Int), s0 = .int .u64 (m1 : Nat) ∧ s1 = .int .i64 e1 ∧ Hid (∃ j : Nat, m = m1 * 2 ^ j ∧ e1 = e + (j : Int) ∧ (j = 0 ∨ e1 ≤ 0)))
  case first =>
    by_cases hp : 0 < min (K : Int) (-e)
    · obtain ⟨n, hn⟩ : ∃ n : Nat, min (K : Int) (-e) = (n : Int) := ⟨(min (K : Int) (-e)).toNat, by omega⟩
      have hnK : n ≤ K := by omega
      have hne : (n : Int) ≤ -e := by omega
      have hn0 : (0 : Int) < (n : Int) := by omega
      obtain ⟨q, hq, hK64⟩ := hspec
      have hdiv : m = (m / 2 ^ n) * 2 ^ n := by
        have : 2 ^ n ∣ m := by
          rw [hq]
          exact Nat.dvd_trans (Nat.pow_dvd_pow 2 hnK) (Nat.dvd_mul_left _ _)
        exact (Nat.div_mul_cancel this).symm
      have hwn : IntKind.i64.wrap (e + (n : Int)) = e + (n : Int) := by rw [IntWalk.i64_left]; exact IntWalk.wrap64_in _ (by omega)
      have HD : Hid (m = (m / 2 ^ n) * 2 ^ n ∧ e + (n : Int) ≤ 0) := ⟨hdiv, by omega⟩
      rw [hn]
      clear hdiv hq hp hn
      go_wp2_with fail
      go_meet
      case rel => exact ⟨rfl, m / 2 ^ n, e + (n : Int), by simp, rfl, n, HD.out.1, rfl, .inr HD.out.2⟩
    · have HD : Hid (m = m * 2 ^ 0) := by simp [Hid]
      have hp2 : decide (0 < min (K : Int) (-e)) = false := by simpa using hp
      clear hspec
      go_wp2_with fail
      go_meet
      case rel => exact ⟨rfl, m, e, rfl, rfl, 0, HD.out, by simp, .inl rfl⟩
  case rest =>
    obtain ⟨rfl, m1, e1, rfl, rfl, HJ⟩ := hcut
    have hm1 : 0 < m1 ∧ m1 < 9007199254740992 := by
      obtain ⟨j, h1, -⟩ := HJ.out
      have h2 := HM.out
      have h3 : 0 < 2 ^ j := Nat.two_pow_pos j
      refine ⟨Nat.pos_of_ne_zero (fun q => by rw [q] at h1; omega), ?_⟩
      have : m1 * 1 ≤ m1 * 2 ^ j := Nat.mul_le_mul_left _ h3
      omega
    have he1 : -1074 ≤ e1 ∧ e1 ≤ 971 := by
      obtain ⟨j, -, h1, h2⟩ := HJ.out
      have := HE.out
      omega
    have HE1 : Hid (-1074 ≤ e1 ∧ e1 ≤ 971) := he1
    have hF := fun wx => From_any m1 wx (by omega)
    by_cases hpos : 0 ≤ e1
    · obtain ⟨k, hk⟩ : ∃ k : Nat, e1 = (k : Int) := ⟨e1.toNat, by omega⟩
      have hkb : k ≤ 971 := by omega
      have hge : (0 : Int) ≤ (k : Int) := by omega
      rw [hk]
      have HKE : Hid (e1 = (k : Int)) := hk
      clear hk hpos he1
      go_wp2_with fail
      refine (hF _).mono ?_
      rintro r w3 ⟨v3, l3, rfl, o3, m3, p3, e3, k3⟩
      obtain ⟨a3, c3, rfl, hc3, r3⟩ := o3.shape
      have j3 : l3.length ≤ 2 := len_le_pow p3 2 (by rw [e3]; show m1 < 18446744073709551616; omega)
      go_wp2_with fail
      refine (Up_any a3 c3 k l3 w3 hc3 (by omega) (by omega) r3 m3).mono ?_
      rintro r w4 ⟨v4, rfl, n4, k4⟩
      obtain ⟨a4, c4, l4, rfl, hc4, r4, m4, p4, e4, -⟩ := n4.shape
      have j4 : l4.length ≤ 33 := len_le_pow p4 33 (by
        rw [e4, e3]
        have q1 := two_limbs k 31 (by omega)
        have q2 : m1 * 2 ^ k ≤ m1 * 4294967296 ^ 31 := Nat.mul_le_mul_left _ q1
        have q3 : m1 * 4294967296 ^ 31 < 4294967296 ^ 2 * 4294967296 ^ 31 := Nat.mul_lt_mul_of_pos_right (by show m1 < 18446744073709551616; omega) (Nat.pow_pos (by omega))
        exact Nat.lt_of_le_of_lt q2 q3)
      go_wp2_with fail
      refine (hPr a4 c4 l4 w4 hc4 (by omega) r4 m4).mono ?_
      rintro r w5 ⟨rfl, k5⟩
      go_wp2_with fail
      go_ret
      obtain ⟨j, h1, h2, h3⟩ := HJ.out
      refine ⟨m1, e1, j, h1, h2, HE1.out, ?_, (k3.trans k4).trans k5⟩
      unfold Go.Proofs.YtgjhbolnnnibkaaGreatDoor.exD
      rw [HKE.out, if_pos (by omega)]
      rfl
    · obtain ⟨k, hk⟩ : ∃ k : Nat, e1 = -(k : Int) := ⟨(-e1).toNat, by omega⟩
      have hkb : 0 < k ∧ k ≤ 1074 := by omega
      have hge : ¬ (0 : Int) ≤ -(k : Int) := by omega
      rw [hk]
      have HKE : Hid (e1 = -(k : Int)) := hk
      clear hk hpos he1
      have hF5 := fun wx => From_any 5 wx (by omega)
      have hwk : IntKind.i64.wrap (-(-(k : Int))) = (k : Int) := by rw [Int.neg_neg, IntWalk.i64_left]; exact IntWalk.wrap64_in _ (by omega)
      go_wp2_with fail
      refine (hF5 _).mono ?_
      rintro r w3 ⟨v3, l3, rfl, o3, m3, p3, e3, k3⟩
      obtain ⟨a3, c3, rfl, hc3, r3⟩ := o3.shape
      have j3 : l3.length ≤ 1 := len_le_pow p3 1 (by rw [e3]; decide)
      go_wp2_with fail
      have hpE : powE l3 (k : Int) = 0 := by
        unfold powE
        have q := lenB_max m3
        have q2 : lenB l3 * k ≤ 32 * k := Nat.mul_le_mul_right k (by omega)
        rw [if_neg (by omega), if_neg (by
          have e : ((lenB l3 : Int) * (k : Int)) = ((lenB l3 * k : Nat) : Int) := by simp
          rw [e]
          omega)]
      have hpV : powV l3 (k : Int) = 5 ^ k := by
        unfold powV
        have q := lenB_max m3
        have q2 : lenB l3 * k ≤ 32 * k := Nat.mul_le_mul_right k (by omega)
        rw [if_neg (by omega), if_neg (by
          have e : ((lenB l3 : Int) * (k : Int)) = ((lenB l3 * k : Nat) : Int) := by simp
          rw [e]
          omega), e3]
        rfl
      have cP := Pow_any a3 c3 (k : Int) l3 w3 hc3 (by omega) r3 m3
      rw [hpE, hpV] at cP
      refine cP.mono ?_
      rintro r w4 ⟨a4, c4, l4, rfl, hc4, r4, m4, p4, e4, k4⟩
      have j4 : l4.length ≤ 102 := len_le_pow p4 102 (by
        rw [e4]
        have q1 := two_limbs (3 * k) 101 (by omega)
        exact Nat.lt_of_le_of_lt (Nat.le_trans (five_two k) q1) (Nat.pow_lt_pow_right (by omega) (by omega)))
      clear cP hpE hpV
      go_wp2_with fail
      refine (hF _).mono ?_
      rintro r w5 ⟨v5, l5, rfl, o5, m5, p5, e5, k5⟩
      obtain ⟨a5, c5, rfl, hc5, r5⟩ := o5.shape
      have j5 : l5.length ≤ 2 := len_le_pow p5 2 (by rw [e5]; show m1 < 18446744073709551616; omega)
      go_wp2_with fail
      refine (Mul_any a5 a4 c5 c4 l5 l4 w5 hc5 hc4 (by omega) (by omega) r5 (r4.keep k5) m5 m4).mono ?_
      rintro r w6 ⟨v6, rfl, n6, k6⟩
      obtain ⟨a6, c6, l6, rfl, hc6, r6, m6, p6, e6, -⟩ := n6.natR.shape
      have j6 : l6.length ≤ 104 := len_le_pow p6 104 (by
        rw [e6]
        have q1 := val_lt m5
        have q2 := val_lt m4
        have q3 : (4294967296 : Nat) ^ l5.length ≤ 4294967296 ^ 2 := Nat.pow_le_pow_right (by omega) j5
        have q4 : (4294967296 : Nat) ^ l4.length ≤ 4294967296 ^ 102 := Nat.pow_le_pow_right (by omega) j4
        have q5 : val l5 * val l4 < 4294967296 ^ 2 * 4294967296 ^ 102 := Nat.mul_lt_mul_of_lt_of_le (Nat.lt_of_lt_of_le q1 q3) (Nat.le_of_lt (Nat.lt_of_lt_of_le q2 q4)) (Nat.pow_pos (by omega))
        exact q5)
      rw [e5, e4] at e6
      have cQ := hPr a6 c6 l6 w6 hc6 (by omega) r6 m6
      rw [e6] at cQ
      go_wp2_with fail
      refine cQ.mono ?_
      rintro r w7 ⟨rfl, k7⟩
      have K7 : Hid (Keep w w7) := (((k3.trans k4).trans k5).trans k6).trans k7
      have hdl : (Go.Proofs.YtgjhbolnnnibkaaGreatDoor.dD (m1 * 5 ^ k)).length ≤ 1100 := by
        obtain ⟨Z, hZ⟩ : ∃ Z, Z = 1099 := ⟨_, rfl⟩
        rw [show 1100 = Z + 1 by omega]
        apply Go.Proofs.YtgjhbolnnnibkaaGreatDoor.dD_len Z
        have q1 : (5 : Nat) ^ k ≤ 10 ^ k := Nat.pow_le_pow_left (by omega) k
        have q2 : m1 * 5 ^ k ≤ m1 * 10 ^ k := Nat.mul_le_mul_left _ q1
        have q3 : m1 * 10 ^ k < 10 ^ 16 * 10 ^ k := Nat.mul_lt_mul_of_pos_right (by show m1 < 10000000000000000; omega) (Nat.pow_pos (by omega))
        rw [← Nat.pow_add] at q3
        exact Nat.lt_of_lt_of_le (Nat.lt_of_le_of_lt q2 q3) (Nat.pow_le_pow_right (by omega) (by omega))
      obtain ⟨d, hd⟩ : ∃ d, Go.Proofs.YtgjhbolnnnibkaaGreatDoor.dD (m1 * 5 ^ k) = d := ⟨_, rfl⟩
      rw [hd] at hdl
      rw [hd]
      have HDD : Hid (Go.Proofs.YtgjhbolnnnibkaaGreatDoor.dD (m1 * 5 ^ k) = d) := hd
      clear hd cQ k3 k4 k5 k6 k7 r3 r4 r5 r6 e6 e5 e4 e3
      obtain ⟨L, hL⟩ : ∃ L, d.length = L := ⟨_, rfl⟩
      rw [hL] at hdl
      have s1 : (ByteArray.mk d.toArray).size = L := by rw [Go.Proofs.YtgjhbolnnnibkaaGreatDoor.sz_mk, hL]
      obtain ⟨z, hz⟩ : ∃ z, k + 1 - L = z := ⟨_, rfl⟩
      have hw48 : IntKind.i64.wrap (1 - -(k : Int)) = (k : Int) + 1 := by rw [show (1 : Int) - -(k : Int) = (k : Int) + 1 by omega, IntWalk.i64_left]; exact IntWalk.wrap64_in _ (by omega)
      have hw48b : IntKind.i64.wrap (1 + (k : Int)) = (k : Int) + 1 := by rw [show (1 : Int) + (k : Int) = (k : Int) + 1 by omega, IntWalk.i64_left]; exact IntWalk.wrap64_in _ (by omega)
      have hw51 : IntKind.i64.wrap ((k : Int) + 1 - (L : Int)) = (k : Int) + 1 - (L : Int) := by rw [IntWalk.i64_left]; exact IntWalk.wrap64_in _ (by omega)
      have hmax : max (0 : Int) ((k : Int) + 1 - (L : Int)) = (z : Int) := by omega
      have hRp := fun wx => Go.Proofs.YtgjhbolnnnibkaaGreatDoor.rp_of z (by omega) wx
      have hcat : (ByteArray.mk (List.replicate z (48 : UInt8)).toArray) ++ (ByteArray.mk d.toArray) = ByteArray.mk (Go.Proofs.YtgjhbolnnnibkaaGreatDoor.exZ k d).toArray := by
        rw [Go.Proofs.YtgjhbolnnnibkaaGreatDoor.catB]
        unfold Go.Proofs.YtgjhbolnnnibkaaGreatDoor.exZ
        rw [hL, hz]
      obtain ⟨R, hR⟩ : ∃ R, List.replicate z (48 : UInt8) = R := ⟨_, rfl⟩
      rw [hR] at hRp hcat
      have s3 : (ByteArray.mk R.toArray).size = z := by rw [Go.Proofs.YtgjhbolnnnibkaaGreatDoor.sz_mk, ← hR, List.length_replicate]
      clear hR
      have hZl := Go.Proofs.YtgjhbolnnnibkaaGreatDoor.exZ_len k d
      have hZl2 : (Go.Proofs.YtgjhbolnnnibkaaGreatDoor.exZ k d).length ≤ 3000 := by
        unfold Go.Proofs.YtgjhbolnnnibkaaGreatDoor.exZ
        rw [List.length_append, List.length_replicate, hL]
        omega
      obtain ⟨D, hD⟩ : ∃ D, Go.Proofs.YtgjhbolnnnibkaaGreatDoor.exZ k d = D := ⟨_, rfl⟩
      rw [hD] at hcat hZl hZl2
      have HD : Hid (Go.Proofs.YtgjhbolnnnibkaaGreatDoor.exZ k d = D) := hD
      obtain ⟨M, hM⟩ : ∃ M, D.length = M := ⟨_, rfl⟩
      rw [hM] at hZl hZl2
      have s2 : (ByteArray.mk D.toArray).size = M := by rw [Go.Proofs.YtgjhbolnnnibkaaGreatDoor.sz_mk, hM]
      obtain ⟨i, hi⟩ : ∃ i, M - k = i := ⟨_, rfl⟩
      have hw60 : IntKind.i64.wrap ((M : Int) + -(k : Int)) = (i : Int) := by rw [show (M : Int) + -(k : Int) = (i : Int) by omega, IntWalk.i64_left]; exact IntWalk.wrap64_in _ (by omega)
      have hu : ∀ wx, (Instr.slice 9 (.string ⟨D.toArray⟩) none (some (.int .i64 (i : Int))) none).run Tryz.prog wx = .ok (.string ⟨(D.take i).toArray⟩) wx := fun wx => Go.Proofs.YtgjhbolnnnibkaaGreatDoor.run_upto D i (by omega) wx
      have hf : ∀ wx, (Instr.slice 9 (.string ⟨D.toArray⟩) (some (.int .i64 (i : Int))) none none).run Tryz.prog wx = .ok (.string ⟨(D.drop i).toArray⟩) wx := fun wx => Go.Proofs.YtgjhbolnnnibkaaGreatDoor.run_from D i (by omega) wx
      have HI : Hid (M - k = i ∧ D.length = M) := ⟨hi, hM⟩
      obtain ⟨TA, hTA⟩ : ∃ x, D.take i = x := ⟨_, rfl⟩
      obtain ⟨TB, hTB⟩ : ∃ x, D.drop i = x := ⟨_, rfl⟩
      have hA : (ByteArray.mk TA.toArray).size ≤ 3000 := by rw [Go.Proofs.YtgjhbolnnnibkaaGreatDoor.sz_mk, ← hTA, List.length_take, hM]; omega
      have hB : (ByteArray.mk TB.toArray).size ≤ 3000 := by rw [Go.Proofs.YtgjhbolnnnibkaaGreatDoor.sz_mk, ← hTB, List.length_drop, hM]; omega
      have hAB : (ByteArray.mk TA.toArray ++ (⟨#[46]⟩ : ByteArray)).size ≤ 3001 := by rw [ByteArray.size_append, show (⟨#[46]⟩ : ByteArray).size = 1 from rfl]; omega
      have hABC : (ByteArray.mk TA.toArray ++ (⟨#[46]⟩ : ByteArray) ++ ByteArray.mk TB.toArray).size ≤ 6001 := by rw [ByteArray.size_append]; omega
      have hAl : TA.length ≤ 3000 := by rw [← hTA, List.length_take, hM]; omega
      have hBl : TB.length ≤ 3000 := by rw [← hTB, List.length_drop, hM]; omega
      have hiw : IntKind.i64.wrap (i : Int) = (i : Int) := by rw [IntWalk.i64_left]; exact IntWalk.wrap64_in _ (by omega)
      have him : (M : Int) + -(k : Int) = (i : Int) := by omega
      have hil : i ≤ 3000 := by omega
      rw [hTA] at hu
      rw [hTB] at hf
      have HT : Hid (D.take i = TA ∧ D.drop i = TB) := ⟨hTA, hTB⟩
      clear hTA hTB
      clear hz hL hD hM hi hZl
      go_wp2_with fail
      refine (hRp _).mono ?_
      rintro r w8 ⟨rfl, k8⟩
      have K8 : Hid (Keep w w8) := K7.out.trans k8
      clear hRp k8
      go_wp2_with fail
      go_region_with (fail)
      go_simp
      go_wp2_with fail
      go_ret
      obtain ⟨j, h1, h2, h3⟩ := HJ.out
      refine ⟨m1, e1, j, h1, h2, HE1.out, ?_, by first | exact K8.out | exact K8.out.drew | exact K8.out.drewN _⟩
      unfold Go.Proofs.YtgjhbolnnnibkaaGreatDoor.exD
      rw [HKE.out, if_neg (by omega), show (-(-(k : Int))).toNat = k by omega, HDD.out, HD.out, HI.out.2, HI.out.1, HT.out.1, HT.out.2]
      have q : ByteArray.mk TA.toArray ++ (⟨#[46]⟩ : ByteArray) ++ ByteArray.mk TB.toArray = ⟨(TA ++ 46 :: TB).toArray⟩ := by
        rw [show (⟨#[46]⟩ : ByteArray) = ⟨([46] : List UInt8).toArray⟩ from rfl, Go.Proofs.YtgjhbolnnnibkaaGreatDoor.catB, Go.Proofs.YtgjhbolnnnibkaaGreatDoor.catB]
        simp
      rw [← q]
      rfl
end Go.Proofs.YtgjhbolnnnibkaaGreatDoor.Li
