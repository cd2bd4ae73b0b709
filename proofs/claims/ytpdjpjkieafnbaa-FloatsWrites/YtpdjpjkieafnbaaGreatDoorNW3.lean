import Derived.Test.YtpdjpjkieafnbaaGreatDoorProg
import Derived.Test.YtpdjpjkieafnbaaGreatDoorNC10
import Derived.Test.YtpdjpjkieafnbaaGreatDoorNB2
import Derived.Test.YtpdjpjkieafnbaaGreatDoorH1
import Derived.WalkKit
import Derived.WalkSpells
import Derived.WalkLawsBesides
import Derived.Laws.CopyOwn
import Derived.Deep.Draws
import Derived.Deep.QuietTactic
import Derived.BigQuiet
import Derived.Laws.MathBits
import Derived.Laws.Externs
import Derived.Laws.BytesArg
import Derived.Lib.OthersKept
import Derived.Deep.RegionWith
import Derived.WalkMore
import Derived.Deep.LoopGhost
import Derived.Deep.RegionHeld3
import Derived.Test.YtpdjpjkieafnbaaGreatDoorNI1
import Derived.Test.YtpdjpjkieafnbaaGreatDoorR4
import Derived.Test.YtpdjpjkieafnbaaGreatDoorRP
import Derived.Test.YtpdjpjkieafnbaaGreatDoorNS9
import Derived.Test.YtpdjpjkieafnbaaGreatDoorNS3
set_option linter.unusedVariables false
set_option linter.unusedSimpArgs false
namespace Go.Proofs.YtpdjpjkieafnbaaGreatDoor.Li
open Go.RowKit Lb
set_option maxHeartbeats 400000 in
theorem from_any (n : Nat) (w : World) (hn : n < 18446744073709551616) :
    Calls Tryz.prog 66 #[.int .u64 (n : Nat)] w fun e w' => ∃ v l, e = .returned v ∧ Res w.heap.size w' v l ∧ Lim l ∧ Nrm l ∧ val l = n ∧ Keep w w' := by
  go_enter Tryz.func66, Tryz.ntmps66
  go_wp2_with fail
  have hrow : Row (w.alloc (Obj.cells #[Value.int IntKind.u32 (↑n % 4294967296), Value.int IntKind.u32 (↑n / 4294967296)] 40)) w.heap.size [n % 4294967296, n / 4294967296] := by
    unfold Row; rw [heap_alloc_new]; simp [U]
  have hk : Keep w (w.alloc (Obj.cells #[Value.int IntKind.u32 (↑n % 4294967296), Value.int IntKind.u32 (↑n / 4294967296)] 40)) := (Keep.refl w).alloc _
  generalize w.alloc _ = w1 at hrow hk ⊢
  refine (norm_any (some ⟨w.heap.size, 0, none⟩) 2 [n % 4294967296, n / 4294967296] w1 (by simp) (by simp) (hrow.rd 0 2 (by simp))).mono ?_
  rintro e w' ⟨rfl, rfl⟩
  go_wp2
  go_ret
  refine ⟨_, [n % 4294967296, n / 4294967296].take (nl [n % 4294967296, n / 4294967296]), rfl, ?_, Lim_take (by intro x hx; simp at hx; omega) _, Nrm_take _, by rw [val_take_nl]; simp [val]; omega, hk⟩
  have hres : Res w.heap.size w' (.slice (some ⟨w.heap.size, 0, none⟩) 2 2) [n % 4294967296, n / 4294967296] := .inr ⟨_, _, rfl, Nat.le_refl _, hrow, Nat.le_refl _, rfl⟩
  exact hres.cut (nl_le _)
end Go.Proofs.YtpdjpjkieafnbaaGreatDoor.Li
set_option linter.unusedVariables false
set_option linter.unusedSimpArgs false
namespace Go.Proofs.YtpdjpjkieafnbaaGreatDoor.Li
open Go.RowKit Lb
theorem uTop (b : Nat) (hb : b < 18446744073709551616) : bits .and .u64 ((b : Int) / 4503599627370496) 2047 = ((pField b : Nat) : Int) := by
  have e : (b : Int) / 4503599627370496 = ((b / 4503599627370496 : Nat) : Int) := by omega
  have := u64_and_nat (b / 4503599627370496) 2047 (by omega) (by omega)
  rw [show b / 4503599627370496 &&& 2047 = b / 4503599627370496 % 2048 from Nat.and_two_pow_sub_one_eq_mod _ 11] at this
  rw [e]
  exact this
theorem uNeg (b : Nat) (hb : b < 18446744073709551616) : (bits .and .u64 ((b : Int) / 9223372036854775808) 1 == 1) = pNeg b := by
  have e : (b : Int) / 9223372036854775808 = ((b / 9223372036854775808 : Nat) : Int) := by omega
  have := u64_and_nat (b / 9223372036854775808) 1 (by omega) (by omega)
  rw [show b / 9223372036854775808 &&& 1 = b / 9223372036854775808 % 2 from Nat.and_one_is_mod _] at this
  rw [e]
  have h' : bits .and .u64 ((b / 9223372036854775808 : Nat) : Int) 1 = ((b / 9223372036854775808 % 2 : Nat) : Int) := this
  rw [h']
  unfold pNeg
  rw [Bool.eq_iff_iff]
  simp only [beq_iff_eq, decide_eq_true_eq]
  omega
theorem mid (w : World) (A B C : Obj) : (((w.alloc A).alloc B).alloc C).heap[w.heap.size + 1]? = some B := by
  have h : (w.alloc A).heap.size = w.heap.size + 1 := by simp
  rw [← h]
  exact (((Keep.refl _).alloc C).block _ (by simp)).trans (heap_alloc_new _ _)
def ofV (b : Nat) : Value := .agg #[.bool (pNeg b), .bool (decide (pKind b = 3)), .bool (decide (pKind b = 4)), .int .u64 (pM b : Nat), .int .i64 (if pField b = 2047 then 0 else if 0 < pField b then -1074 + (pField b : Int) - 1 else -1074)]
set_option maxRecDepth 100000 in
set_option maxHeartbeats 1000000 in
theorem Of_any (b : Nat) (hb : b < 18446744073709551616) (w : World) :
    Calls Tryz.prog 20 #[.int .u64 (b : Nat), .agg #[.int .i64 53, .int .i64 (-1074), .int .i64 971]] w fun e w' => e = .returned (ofV b) ∧ Keep w w' := by
  have h1 := uTop b hb
  have h2 := uNeg b hb
  have h3 := and52 b hb
  have hf : pField b < 2048 := Nat.mod_lt _ (by omega)
  have hkp : pKept b < 4503599627370496 := Nat.mod_lt _ (by omega)
  have h4 : wrap64 ((pField b : Nat) : Int) = (pField b : Nat) := IntWalk.wrap64_in _ (by omega)
  have HV : Hid (ofV b = .agg #[.bool (pNeg b), .bool (decide (pKind b = 3)), .bool (decide (pKind b = 4)), .int .u64 (pM b : Nat), .int .i64 (if pField b = 2047 then 0 else if 0 < pField b then -1074 + (pField b : Int) - 1 else -1074)]) := rfl
  have HK : Hid (pKind b = if pField b = 2047 then (if pKept b = 0 then 3 else 4) else if 0 < pField b then 2 else if 0 < pKept b then 1 else 0) := rfl
  have HM : Hid (pM b = if 0 < pField b ∧ pField b < 2047 then 4503599627370496 + pKept b else pKept b) := rfl
  have h5 := or52 (pKept b) hkp
  generalize ofV b = V at *
  generalize pField b = f at *
  generalize pKept b = kp at *
  generalize pNeg b = ng at *
  generalize pKind b = Kd at *
  generalize pM b = M at *
  by_cases g1 : f = 2047
  · subst g1
    go_enter Tryz.func20, Tryz.ntmps20
    go_wp2_with fail
    refine bodyPost_ret (results_cell_row rfl _ _ (w.heap.size + 1) 28 _ (0, 0) _ rfl (mid w _ _ _) Tryz.underlying28 rfl (by kernel_rfl)) rfl ?_
    rw [HV.out, HK.out, HM.out]
    refine ⟨?_, (((Keep.refl w).alloc _).alloc _).alloc _⟩
    by_cases g2 : kp = 0
    · subst g2; rfl
    · have e1 : ((kp : Int) == 0) = false := by rw [beq_eq_false_iff_ne]; omega
      have e2 : ((kp : Int) != 0) = true := by rw [bne_iff_ne]; omega
      rw [e1, e2]
      simp [g2]
  · have n1 : ((f : Int) == 2047) = false := by rw [beq_eq_false_iff_ne]; omega
    by_cases g2 : f = 0
    · subst g2
      go_enter Tryz.func20, Tryz.ntmps20
      go_wp2_with fail
      refine bodyPost_ret (results_cell_row rfl _ _ (w.heap.size + 1) 28 _ (0, 0) _ rfl (mid w _ _ _) Tryz.underlying28 rfl (by kernel_rfl)) rfl ?_
      rw [HV.out, HK.out, HM.out]
      refine ⟨?_, (((Keep.refl w).alloc _).alloc _).alloc _⟩
      by_cases g3 : kp = 0
      · subst g3; rfl
      · simp [show 0 < kp by omega]
    · have n2 : ((f : Int) == 0) = false := by rw [beq_eq_false_iff_ne]; omega
      have h6 := IntWalk.wrap64_in ((f : Int) - 1) (by omega)
      have h7 := IntWalk.wrap64_in ((f : Int) - 1 + -1074) (by omega)
      have h8 : bits .or .u64 (kp : Int) 4503599627370496 = ((4503599627370496 + kp : Nat) : Int) := by
        have h := u64_or_nat kp 4503599627370496 (by omega) (by omega)
        rw [Nat.or_comm, show 4503599627370496 ||| kp = 4503599627370496 + kp from (Nat.two_pow_add_eq_or_of_lt (i := 52) hkp 1).symm] at h
        exact h
      go_enter Tryz.func20, Tryz.ntmps20
      go_wp2_with fail
      refine bodyPost_ret (results_cell_row rfl _ _ (w.heap.size + 1) 28 _ (0, 0) _ rfl (mid w _ _ _) Tryz.underlying28 rfl (by kernel_rfl)) rfl ?_
      rw [HV.out, HK.out, HM.out]
      refine ⟨?_, (((Keep.refl w).alloc _).alloc _).alloc _⟩
      rw [if_neg g1, if_pos (show 0 < f by omega), if_pos (show 0 < f ∧ f < 2047 by omega), if_neg g1, if_pos (show 0 < f by omega), show -1074 + (f : Int) - 1 = f - 1 + -1074 by omega]
      rfl
end Go.Proofs.YtpdjpjkieafnbaaGreatDoor.Li
set_option linter.unusedVariables false
set_option linter.unusedSimpArgs false
namespace Go.Proofs.YtpdjpjkieafnbaaGreatDoor.Li
open Go.RowKit Lb
theorem odd_gcd {m : Nat} (h : m % 2 = 1) : ∀ k, Nat.gcd m (2 ^ k) = 1
  | 0 => by simp
  | k + 1 => by
    have h2 : Nat.Coprime m 2 := by
      unfold Nat.Coprime
      rw [Nat.gcd_comm, Nat.gcd_rec, h]
      rfl
    have := odd_gcd h k
    rw [Nat.pow_succ]
    exact Nat.Coprime.mul_right this h2
/-- How often two goes into a number. -/
def twos : Nat → Nat → Nat
  | 0, _ => 0
  | f + 1, m => if m % 2 = 0 then twos f (m / 2) + 1 else 0
theorem twos_odd : ∀ (f m : Nat), 0 < m → m < 2 ^ f → m = (m / 2 ^ twos f m) * 2 ^ twos f m ∧ (m / 2 ^ twos f m) % 2 = 1 ∧ twos f m < f
  | 0, m, h0, h => by simp at h; omega
  | f + 1, m, h0, h => by
    rw [twos]
    split
    · rename_i h2
      have hm : m / 2 < 2 ^ f := by rw [Nat.pow_succ] at h; omega
      obtain ⟨a, b, c⟩ := twos_odd f (m / 2) (by omega) hm
      have e : m / 2 ^ (twos f (m / 2) + 1) = m / 2 / 2 ^ twos f (m / 2) := by
        rw [Nat.pow_succ, Nat.mul_comm, ← Nat.div_div_eq_div_mul]
      rw [e]
      refine ⟨?_, b, by omega⟩
      rw [Nat.pow_succ, ← Nat.mul_assoc, ← a]
      omega
    · rename_i h2
      simp only [Nat.pow_zero, Nat.div_one, Nat.mul_one]
      exact ⟨trivial, by omega, by omega⟩
/-- Lowest terms of an odd number times a power of two over a power of two. -/
theorem low_pow {o t k : Nat} (ho : o % 2 = 1) : (o * 2 ^ t) / Nat.gcd (o * 2 ^ t) (2 ^ k) = o * 2 ^ (t - k) ∧ 2 ^ k / Nat.gcd (o * 2 ^ t) (2 ^ k) = 2 ^ (k - t) := by
  rcases Nat.le_total t k with h | h
  · have e : 2 ^ k = 2 ^ (k - t) * 2 ^ t := by rw [← Nat.pow_add]; congr 1; omega
    have g : Nat.gcd (o * 2 ^ t) (2 ^ k) = 2 ^ t := by
      rw [e, Nat.gcd_mul_right, odd_gcd ho, Nat.one_mul]
    have hp : 0 < 2 ^ t := Nat.two_pow_pos t
    rw [g]
    refine ⟨?_, ?_⟩
    · rw [Nat.mul_div_cancel _ hp, show t - k = 0 by omega, Nat.pow_zero, Nat.mul_one]
    · rw [e, Nat.mul_div_cancel _ hp]
  · have e : o * 2 ^ t = (o * 2 ^ (t - k)) * 2 ^ k := by rw [Nat.mul_assoc, ← Nat.pow_add]; congr 2; omega
    have hp : 0 < 2 ^ k := Nat.two_pow_pos k
    have g : Nat.gcd (o * 2 ^ t) (2 ^ k) = 2 ^ k := by
      rw [e]
      exact Nat.gcd_eq_right (Nat.dvd_mul_left _ _)
    rw [g]
    refine ⟨?_, ?_⟩
    · rw [e, Nat.mul_div_cancel _ hp]
    · rw [Nat.div_self hp, show k - t = 0 by omega]
theorem lowest (M : Nat) (E : Int) (h0 : 0 < M) (hM : M < 2 ^ 53) :
    RN (M * 2 ^ E.toNat) (2 ^ (-E).toNat) = M / 2 ^ twos 53 M * 2 ^ (E + twos 53 M).toNat ∧ RD (M * 2 ^ E.toNat) (2 ^ (-E).toNat) = 2 ^ (-(E + twos 53 M)).toNat := by
  obtain ⟨e1, e2, e3⟩ := twos_odd 53 M h0 hM
  generalize hT : twos 53 M = t at *
  generalize hO : M / 2 ^ t = o at *
  have hd : (2 : Nat) ^ (-E).toNat ≠ 0 := Nat.pos_iff_ne_zero.1 (Nat.two_pow_pos _)
  unfold RN RD
  rw [if_neg hd, if_neg hd]
  have h := low_pow (t := t + E.toNat) (k := (-E).toNat) e2
  have e4 : M * 2 ^ E.toNat = o * 2 ^ (t + E.toNat) := by rw [e1, Nat.mul_assoc, ← Nat.pow_add]
  rw [e4]
  rw [show (E + t).toNat = t + E.toNat - (-E).toNat by omega, show (-(E + t)).toNat = (-E).toNat - (t + E.toNat) by omega]
  exact h
end Go.Proofs.YtpdjpjkieafnbaaGreatDoor.Li
set_option linter.unusedVariables false
set_option linter.unusedSimpArgs false
namespace Go.Proofs.YtpdjpjkieafnbaaGreatDoor.Li
open Go.RowKit Lb
theorem one_nv (w : World) (w' : World) (k : Keep (w.alloc (.cells #[.int .u32 1] 40)) w') : Nv w' (.slice (some ⟨w.heap.size, 0, none⟩) 1 1) 1 := by
  have hrow : Row (w.alloc (.cells #[.int .u32 1] 40)) w.heap.size [1] := by
    unfold Row; rw [heap_alloc_new]; simp [U]
  exact ⟨_, 1, [1], rfl, by simp, (hrow.rd 0 1 (by simp)).keep k, by intro x hx; simp at hx; omega, by simp [Nrm], by simp [val]⟩
theorem twos_step {f m : Nat} (h : m % 2 = 0) : twos (f + 1) m = twos f (m / 2) + 1 := by rw [twos, if_pos h]
set_option maxRecDepth 100000 in
set_option maxHeartbeats 400000 in
theorem Ratio_some (a b c : Bool) (M : Nat) (E : Int) (w : World) (h0 : 0 < M) (hM : M < 9007199254740992) (hE : -1074 ≤ E ∧ E ≤ 1000) :
    Calls Tryz.prog 102 #[.agg #[.bool a, .bool b, .bool c, .int .u64 (M : Nat), .int .i64 E]] w fun e w' => ∃ v1 v2, e = .returned (.tuple #[v1, v2]) ∧ Nv w' v1 (RN (M * 2 ^ E.toNat) (2 ^ (-E).toNat)) ∧ Nv w' v2 (RD (M * 2 ^ E.toNat) (2 ^ (-E).toNat)) ∧ Keep w w' := by
  have hlow := lowest M E h0 (by omega)
  obtain ⟨e1, e2, e3⟩ := twos_odd 53 M h0 (by omega)
  rw [hlow.1, hlow.2]
  clear hlow
  replace e1 : Hid _ := e1
  replace e2 : Hid _ := e2
  obtain ⟨T, hT⟩ : ∃ T, twos 53 M = T := ⟨_, rfl⟩
  obtain ⟨O, hO⟩ : ∃ O, M / 2 ^ T = O := ⟨_, rfl⟩
  rw [hT] at e1 e2 e3 ⊢
  rw [hO] at e1 e2 ⊢
  have hne : ((M : Int) == 0) = false := by rw [beq_eq_false_iff_ne]; omega
  go_enter Tryz.func102, Tryz.ntmps102
  go_wp2_with fail
  go_loopw [4, 5] (fun m e wr => ∃ (n k : Nat), m = .int .u64 n ∧ e = .int .i64 (E + k) ∧ 0 < n ∧ n ≤ M ∧ Hid (k + (twos (53 - k) n) = T) ∧ k ≤ 53 ∧ Hid (n < 2 ^ (53 - k)) ∧ Hid (n * 2 ^ k = M) ∧ Keep w wr) (fun m _ _ => (intOf m).toNat)
  case atStart => exact ⟨M, 0, rfl, by simp, h0, by omega, by show _ = _; rw [← hT]; simp, by omega, by show _ < _; omega, by show _ = _; simp, (Keep.refl w).alloc _⟩
  case round =>
    obtain ⟨n, k, rfl, rfl, hn0, hnM, hk, hk53, hnl, hv, hkp⟩ := hrel
    by_cases h2 : n % 2 = 0
    · have g2 : ((n : Int) % 2 == 0) = true := by rw [beq_iff_eq]; omega
      have hk54 : k < 53 := by
        rcases Nat.lt_or_ge k 53 with h | h
        · exact h
        · have h' := hnl.out; rw [show 53 - k = 0 by omega] at h'; omega
      have hw : wrap64 (E + k + 1) = E + (k : Int) + 1 := IntWalk.wrap64_in _ (by omega)
      have hs := twos_step (f := 53 - (k + 1)) h2
      rw [show 53 - (k + 1) + 1 = 53 - k by omega] at hs
      have HS : Hid (k + 1 + twos (53 - (k + 1)) (n / 2) = T) := by show _ = _; have := hk.out; omega
      have HV : Hid (n / 2 * 2 ^ (k + 1) = M) := by
        show _ = _
        rw [← hv.out, Nat.pow_succ, Nat.mul_comm _ 2, ← Nat.mul_assoc]
        congr 1; omega
      have HL : Hid (n / 2 < 2 ^ (53 - (k + 1))) := by
        show _ < _
        have h' := hnl.out
        rw [show 53 - k = 53 - (k + 1) + 1 by omega, Nat.pow_succ] at h'
        omega
      clear hs hk hnl
      go_wp2_with fail
      go_roundw
      case rel => exact ⟨n / 2, k + 1, by go_num, by go_num, by omega, by omega, HS, by omega, HL, HV, hkp⟩
      case measure => simp [intOf]; omega
    · have g2 : ((n : Int) % 2 == 0) = false := by rw [beq_eq_false_iff_ne]; omega
      have hkT : k = T := by
        have h' := hk.out
        have : twos (53 - k) n = 0 := by
          rcases hf : 53 - k with _ | f
          · rfl
          · rw [twos, if_neg h2]
        omega
      subst hkT
      have hnO : n = O := by
        rw [← hO, ← hv.out, Nat.mul_div_cancel _ (Nat.two_pow_pos k)]
      subst hnO
      have hF := fun wx => from_any n wx (by omega)
      by_cases hs : 0 ≤ E + (k : Int)
      · have hd : (-(E + (k : Int))).toNat = 0 := by omega
        obtain ⟨s, hs1⟩ : ∃ s : Nat, E + (k : Int) = s := ⟨(E + k).toNat, by omega⟩
        have hs2 : s ≤ 1048576 := by omega
        have hst : (E + (k : Int)).toNat = s := by omega
        replace hs1 : Hid _ := hs1
        replace hd : Hid _ := hd
        replace hst : Hid _ := hst
        go_wp2_with fail
        refine (hF _).mono ?_
        rintro e w2 ⟨v2, l2, rfl, g2, m2, o2, e2', k2⟩
        obtain ⟨a2, c2, rfl, q1, q2⟩ := g2.shape
        have hU := up_any a2 c2 s l2 w2 (by rcases l2 with _ | ⟨x, l⟩ <;> simp [val] at e2' ⊢; omega) (by have := len_of o2 (k := 2) (by omega); omega) (Nat.le_trans hs2 (by decide)) q2 m2
        rw [← hs1.out] at hU
        go_wp2_with fail
        refine hU.mono ?_
        rintro e w3 ⟨v3, rfl, n3, k3⟩
        go_wp2_with fail
        go_ret2
        refine ⟨_, _, rfl, ?_, ?_, ?_⟩
        · rw [hst.out, ← e2']
          exact n3.keep ((Keep.refl _).alloc _)
        · rw [hd.out]
          exact one_nv _ _ (Keep.refl _)
        · exact ((hkp.trans k2).trans k3).trans ((Keep.refl _).alloc _)
      · obtain ⟨s, hs1⟩ : ∃ s : Nat, -(E + (k : Int)) = s := ⟨(-(E + k)).toNat, by omega⟩
        have hd : (E + (k : Int)).toNat = 0 := by omega
        have hs2 : s ≤ 1048576 := by omega
        have hw : wrap64 (-(E + (k : Int))) = -(E + (k : Int)) := IntWalk.wrap64_in _ (by omega)
        replace hs1 : Hid _ := hs1
        replace hd : Hid _ := hd
        go_wp2_with fail
        refine (hF _).mono ?_
        rintro e w2 ⟨v2, l2, rfl, g2, m2, o2, e2', k2⟩
        have hU := up_any (some ⟨w2.heap.size, 0, none⟩) 1 s [1] (w2.alloc (Obj.cells #[Value.int IntKind.u32 1] 40)) (by simp) (by simp; omega) (Nat.le_trans hs2 (by decide)) (by
          obtain ⟨a1, c1, l1, z1, z2, z3, z4, z5, z6⟩ := one_nv w2 _ (Keep.refl _)
          have hrow : Row (w2.alloc (.cells #[.int .u32 1] 40)) w2.heap.size [1] := by
            unfold Row; rw [heap_alloc_new]; simp [U]
          exact hrow.rd 0 1 (by simp)) (by intro x hx; simp at hx; omega)
        rw [← hs1.out] at hU
        go_wp2_with fail
        refine hU.mono ?_
        rintro e w3 ⟨v3, rfl, n3, k3⟩
        go_wp2_with fail
        go_ret2
        refine ⟨_, _, rfl, ?_, ?_, ?_⟩
        · rw [hd.out, Nat.pow_zero, Nat.mul_one]
          obtain ⟨a2, c2, rfl, q1, q2⟩ := g2.shape
          exact ⟨a2, c2, l2, rfl, q1, q2.keep (((Keep.refl _).alloc _).trans k3), m2, o2, e2'⟩
        · have h1 : (-(E + (k : Int))).toNat = s := by have := hs1.out; omega
          rw [h1]
          have h2 : val [1] * 2 ^ s = 2 ^ s := by simp [val]
          rw [h2] at n3
          exact n3
        · exact (hkp.trans k2).trans (((Keep.refl _).alloc _).trans k3)
end Go.Proofs.YtpdjpjkieafnbaaGreatDoor.Li
set_option linter.unusedVariables false
set_option linter.unusedSimpArgs false
namespace Go.Proofs.YtpdjpjkieafnbaaGreatDoor.Li
open Go.RowKit Lb Nr
/-- A number of the reference, in a box. -/
def Nb (w : World) (g : Nat) (a b c : Bool) (M : Nat) (E : Int) : Prop := w.heap[g]? = some (.cells #[.bool a, .bool b, .bool c, .int .u64 (M : Int), .int .i64 E] 28 (0, 0))
theorem Nb.keep {w w' : World} {g : Nat} {a b c : Bool} {M : Nat} {E : Int} (h : Nb w g a b c M E) (k : Keep w w') : Nb w' g a b c M E := by
  have hg : g < w.heap.size := by
    rcases Nat.lt_or_ge g w.heap.size with q | q
    · exact q
    · unfold Nb at h; rw [Array.getElem?_eq_none q] at h; cases h
  exact (k.block g hg).trans h
theorem Nb.new (w : World) (a b c : Bool) (M : Nat) (E : Int) : Nb (w.alloc (.cells #[.bool a, .bool b, .bool c, .int .u64 (M : Int), .int .i64 E] 28)) w.heap.size a b c M E := heap_alloc_new w _
theorem Nb.cells {w : World} {g : Nat} {a b c : Bool} {M : Nat} {E : Int} (h : Nb w g a b c M E) : w.cell? ⟨g, 0, none⟩ = some (.bool a) ∧ w.cell? ⟨g, 1, none⟩ = some (.bool b) ∧ w.cell? ⟨g, 2, none⟩ = some (.bool c) ∧ w.cell? ⟨g, 3, none⟩ = some (.int .u64 (M : Int)) ∧ w.cell? ⟨g, 4, none⟩ = some (.int .i64 E) := by
  refine ⟨?_, ?_, ?_, ?_, ?_⟩
  all_goals
    rw [cell_of_row w g _ _ 28 (0, 0) h]
    rfl
/-- The sign ahead. -/
def sgN (ng : Bool) : List UInt8 := if ng then [45] else []
set_option maxRecDepth 100000 in
set_option maxHeartbeats 800000 in
theorem special_nan (a b : Bool) (M : Nat) (E : Int) (w : World) : Calls Tryz.prog 58 #[.agg #[.bool a, .bool b, .bool true, .int .u64 (M : Int), .int .i64 E]] w fun e w' => e = .returned (.tuple #[.string ⟨#[110, 97, 110]⟩, .bool true]) ∧ Keep w w' := by
  cases a
  all_goals
    go_enter Tryz.func58, Tryz.ntmps58
    go_wp2_with fail
    go_ret2
    exact ⟨rfl, (Keep.refl w).alloc _⟩
set_option maxRecDepth 100000 in
set_option maxHeartbeats 800000 in
theorem special_inf (a : Bool) (M : Nat) (E : Int) (w : World) : Calls Tryz.prog 58 #[.agg #[.bool a, .bool true, .bool false, .int .u64 (M : Int), .int .i64 E]] w fun e w' => e = .returned (.tuple #[.string ⟨(sgN a ++ [105, 110, 102]).toArray⟩, .bool true]) ∧ Keep w w' := by
  cases a
  all_goals
    go_enter Tryz.func58, Tryz.ntmps58
    go_wp2_with fail
    go_ret2
    exact ⟨rfl, (Keep.refl w).alloc _⟩
set_option maxRecDepth 100000 in
set_option maxHeartbeats 800000 in
theorem special_zero (a : Bool) (E : Int) (w : World) : Calls Tryz.prog 58 #[.agg #[.bool a, .bool false, .bool false, .int .u64 0, .int .i64 E]] w fun e w' => e = .returned (.tuple #[.string ⟨(sgN a ++ [48]).toArray⟩, .bool true]) ∧ Keep w w' := by
  cases a
  all_goals
    go_enter Tryz.func58, Tryz.ntmps58
    go_wp2_with fail
    go_ret2
    exact ⟨rfl, (Keep.refl w).alloc _⟩
set_option maxRecDepth 100000 in
set_option maxHeartbeats 800000 in
theorem special_some (a : Bool) (M : Nat) (E : Int) (w : World) (hM : 0 < M) : Calls Tryz.prog 58 #[.agg #[.bool a, .bool false, .bool false, .int .u64 (M : Int), .int .i64 E]] w fun e w' => e = .returned (.tuple #[.string ⟨(sgN a).toArray⟩, .bool false]) ∧ Keep w w' := by
  have h0 : ((M : Int) == 0) = false := by rw [beq_eq_false_iff_ne]; omega
  cases a
  all_goals
    go_enter Tryz.func58, Tryz.ntmps58
    go_wp2_with fail
    go_ret2
    exact ⟨rfl, (Keep.refl w).alloc _⟩
theorem catZ (i : Nat) : ByteArray.mk (List.replicate i (48 : UInt8)).toArray ++ ByteArray.mk #[48] = ⟨(List.replicate (i + 1) (48 : UInt8)).toArray⟩ := by
  rw [List.replicate_succ']
  exact catB (List.replicate i 48) [48]
set_option maxRecDepth 100000 in
set_option maxHeartbeats 800000 in
theorem noughts_any (n : Nat) (w : World) (hn : n ≤ 100000) : Calls Tryz.prog 60 #[.int .i64 (n : Int)] w fun e w' => e = .returned (.string ⟨(List.replicate n (48 : UInt8)).toArray⟩) ∧ Keep w w' := by
  go_enter Tryz.func60, Tryz.ntmps60
  go_wp2_with fail
  go_loopg [3, 4] (n) (fun g v3 v4 wx => ∃ i : Nat, i + g = n ∧ v3 = .string ⟨(List.replicate i (48 : UInt8)).toArray⟩ ∧ v4 = .int .i64 (i : Int) ∧ Keep w wx)
  case atStart => exact ⟨0, by omega, rfl, rfl, Keep.refl _⟩
  case round =>
    obtain ⟨i, hig, rfl, rfl, hkp⟩ := hrel
    have hc := catZ i
    have hs : (ByteArray.mk (List.replicate i (48 : UInt8)).toArray).size = i := by rw [sz_mk, List.length_replicate]
    have HE : Hid (List.replicate i (48 : UInt8) = List.replicate i (48 : UInt8)) := rfl
    have HE2 : Hid (List.replicate (i + 1) (48 : UInt8) = List.replicate (i + 1) (48 : UInt8)) := rfl
    obtain ⟨Z, hZ⟩ : ∃ Z, Z = List.replicate i (48 : UInt8) := ⟨_, rfl⟩
    obtain ⟨Z2, hZ2⟩ : ∃ Z, Z = List.replicate (i + 1) (48 : UInt8) := ⟨_, rfl⟩
    rw [← hZ, ← hZ2] at hc
    rw [← hZ] at hs ⊢
    have HZ : Hid (Z = List.replicate i (48 : UInt8)) := hZ
    have HZ2 : Hid (Z2 = List.replicate (i + 1) (48 : UInt8)) := hZ2
    clear hZ hZ2 HE HE2
    by_cases hil : i < n
    · have hile : (i : Int) < (n : Int) := by omega
      go_wp2_with fail
      go_roundg (gk - 1)
      case measure => omega
      case rel => exact ⟨i + 1, by omega, by first | (rw [hc, HZ2.out]; done) | (rw [HZ2.out]; done) | rw [← HZ2.out], by simp, hkp⟩
    · obtain rfl : i = n := by omega
      have hile : ¬ (i : Int) < (i : Int) := by omega
      go_wp2_with fail
      go_ret
      exact ⟨congrArg (fun l : List UInt8 => Ending.returned (Value.string ⟨l.toArray⟩)) HZ.out, hkp⟩
theorem from_nv (n : Nat) (w : World) (hn : n < 18446744073709551616) : Calls Tryz.prog 66 #[.int .u64 (n : Int)] w fun e w' => ∃ v, e = .returned v ∧ Nv w' v n ∧ Keep w w' := by
  refine (from_any n w hn).mono ?_
  rintro e w' ⟨v, l, rfl, hr, hm, hn, hv, k⟩
  obtain ⟨a, c, rfl, q1, q2⟩ := hr.shape
  exact ⟨_, rfl, ⟨a, c, l, rfl, q1, q2, hm, hn, hv⟩, k⟩
set_option maxRecDepth 100000 in
set_option maxHeartbeats 800000 in
theorem number_dD (n : Nat) (w : World) (hn : n < 1000000) : Calls Tryz.prog 61 #[.int .i64 (n : Int)] w fun e w' => e = .returned (.string ⟨(dD n).toArray⟩) ∧ Keep w w' := by
  have hF := from_nv n w (by omega)
  have hD := fun v wx (h : Nv wx v n) => decimal_nv v n 1 wx h (by omega) (by omega)
  generalize dD n = X at *
  go_enter Tryz.func61, Tryz.ntmps61
  go_wp2_with fail
  refine hF.mono ?_
  rintro e w1 ⟨v, rfl, hv, k1⟩
  go_wp2_with fail
  refine (hD _ _ hv).mono ?_
  rintro e w2 ⟨rfl, k2⟩
  go_wp2_with fail
  go_ret
  exact ⟨rfl, k1.trans k2⟩
set_option maxRecDepth 100000 in
set_option maxHeartbeats 800000 in
theorem scaled_nvT (v1 v2 : Value) (N D k : Nat) (z : Int) (w : World) (h1 : Nv w v1 N) (h2 : Nv w v2 D) (hz : -1000 ≤ z ∧ z ≤ 1000) (hN : N * 10 ^ (-z).toNat < 4294967296 ^ k) (hD : D * 10 ^ z.toNat < 4294967296 ^ k) (hk : k ≤ 100000) :
    Calls Tryz.prog 103 #[v1, v2, .int .i64 z] w fun e w' => ∃ v1' v2', e = .returned (.tuple #[v1', v2']) ∧ Nv w' v1' (N * 10 ^ (-z).toNat) ∧ Nv w' v2' (D * 10 ^ z.toNat) ∧ Keep w w' := by
  by_cases c : 0 ≤ z
  · obtain ⟨n, rfl⟩ : ∃ n : Nat, z = (n : Int) := ⟨z.toNat, by omega⟩
    have e1 : (-(n : Int)).toNat = 0 := by omega
    rw [e1, Nat.pow_zero, Nat.mul_one, Int.toNat_natCast] at *
    have hT := ten_nv v2 D n k w h2 hD hk (by omega)
    have H1 : Hid (Nv w v1 N) := h1
    clear h1 h2 hN hD e1
    go_enter Tryz.func103, Tryz.ntmps103
    go_wp2_with fail
    refine hT.mono ?_
    rintro e w1 ⟨v', rfl, hv, k1⟩
    go_wp2_with fail
    go_ret2
    exact ⟨_, _, rfl, H1.out.keep k1, hv, k1⟩
  · obtain ⟨n, rfl⟩ : ∃ n : Nat, z = -(n : Int) := ⟨(-z).toNat, by omega⟩
    have e1 : (-(n : Int)).toNat = 0 := by omega
    rw [e1, Nat.pow_zero, Nat.mul_one, Int.neg_neg, Int.toNat_natCast] at *
    have hT := ten_nv v1 N n k w h1 hN hk (by omega)
    have H2 : Hid (Nv w v2 D) := h2
    have hw : IntKind.i64.wrap (- -(n : Int)) = (n : Int) := by rw [IntWalk.i64_left, Int.neg_neg]; exact IntWalk.wrap64_in _ (by omega)
    clear h1 h2 hN hD e1
    go_enter Tryz.func103, Tryz.ntmps103
    go_wp2_with fail
    refine hT.mono ?_
    rintro e w1 ⟨v', rfl, hv, k1⟩
    go_wp2_with fail
    go_ret2
    exact ⟨_, _, rfl, hv, H2.out.keep k1, k1⟩
end Go.Proofs.YtpdjpjkieafnbaaGreatDoor.Li
set_option linter.unusedVariables false
set_option linter.unusedSimpArgs false
namespace Go.Proofs.YtpdjpjkieafnbaaGreatDoor.Li
open Go.RowKit Lb Nr
theorem cross_le {a b c d P Q : Nat} (hP : 0 < P) (hQ : 0 < Q) (h1 : a * P = c * Q) (h2 : b * P = d * Q) : (a ≤ b ↔ c ≤ d) ∧ (a = b ↔ c = d) := by
  refine ⟨⟨fun h => ?_, fun h => ?_⟩, ⟨fun h => ?_, fun h => ?_⟩⟩
  · apply Nat.le_of_mul_le_mul_right _ hQ
    rw [← h1, ← h2]
    exact Nat.mul_le_mul_right _ h
  · apply Nat.le_of_mul_le_mul_right _ hP
    rw [h1, h2]
    exact Nat.mul_le_mul_right _ h
  · apply Nat.eq_of_mul_eq_mul_right hQ
    rw [← h1, ← h2, h]
  · apply Nat.eq_of_mul_eq_mul_right hP
    rw [h1, h2, h]
theorem cross_f (e : Int) (c j : Nat) (k T : Int) (hj : k + T = (j : Int)) : (∀ n : Nat, n * sB (10 ^ (-k).toNat) (e - 2) * 10 ^ T.toNat = n * sNum e T * 10 ^ (-k).toNat) ∧ sA (c * 10 ^ k.toNat) (e - 2) * 10 ^ T.toNat = c * 10 ^ j * sDen e T * 10 ^ (-k).toNat := by
  have ex : 10 ^ k.toNat * 10 ^ T.toNat = 10 ^ j * (10 ^ (-k).toNat * 10 ^ (-T).toNat) := by
    rw [← Nat.pow_add, ← Nat.pow_add, ← Nat.pow_add]
    congr 1
    omega
  unfold sA sB
  refine ⟨fun n => ?_, ?_⟩
  · unfold sNum
    ac_rfl
  · unfold sDen
    calc c * 10 ^ k.toNat * 2 ^ (-(e - 2)).toNat * 10 ^ T.toNat = c * 2 ^ (-(e - 2)).toNat * (10 ^ k.toNat * 10 ^ T.toNat) := by ac_rfl
      _ = c * 2 ^ (-(e - 2)).toNat * (10 ^ j * (10 ^ (-k).toNat * 10 ^ (-T).toNat)) := by rw [ex]
      _ = c * 10 ^ j * (10 ^ (-T).toNat * 2 ^ (-(e - 2)).toNat) * 10 ^ (-k).toNat := by ac_rfl
/-- A multiple of a power of ten lies between the borders. -/
def rIn (lo hi c j : Nat) : Bool := decide (lo ≤ c * 10 ^ j) && decide (c * 10 ^ j ≤ hi)
theorem rIn_iff (lo hi c j : Nat) : rIn lo hi c j = true ↔ lo ≤ c * 10 ^ j ∧ c * 10 ^ j ≤ hi := by unfold rIn; simp
theorem rIn_not (lo hi c j : Nat) : rIn lo hi c j = false ↔ ¬ (lo ≤ c * 10 ^ j ∧ c * 10 ^ j ≤ hi) := by
  rw [← rIn_iff]
  simp
/-- Which of two neighbours the reference takes. -/
def rUp (lo hi X b r j : Nat) : Bool := !(rIn lo hi b j) || (rIn lo hi (b + 1) j && (decide (X < 2 * r) || (decide (2 * r = X) && decide (b % 2 = 1))))
theorem up_same {lo hi D U V b r W : Nat} {j : Nat} (hD : 0 < D) (hU : U = 10 ^ j) (hV : V = b * (D * U) + r) (hr : r < D * U) (hW : W = 2 * V) (h1 : b * U ≤ hi) (h2 : lo ≤ (b + 1) * U) (h3 : lo ≤ b * U ∨ (b + 1) * U ≤ hi) :
    rUp lo hi (D * U) b r j = goU b U (W / D - 2 * b * U) (decide (W % D = 0)) lo hi := by
  have e0 : W = 2 * r + D * (2 * b * U) := by
    rw [hW, hV, Nat.mul_add]
    have : 2 * (b * (D * U)) = D * (2 * b * U) := by ac_rfl
    omega
  have e1 : W / D - 2 * b * U = 2 * r / D := by
    rw [e0, Nat.add_mul_div_left _ _ hD]
    exact Nat.add_sub_cancel _ _
  have e2 : W % D = 2 * r % D := by rw [e0, Nat.add_mul_mod_self_left]
  rw [e1, e2]
  have f1 : U ≤ 2 * r / D ↔ D * U ≤ 2 * r := by rw [Nat.le_div_iff_mul_le hD, Nat.mul_comm]
  have f2 : (2 * r / D = U ∧ 2 * r % D = 0) ↔ 2 * r = D * U := by
    have := Nat.div_add_mod (2 * r) D
    constructor
    · rintro ⟨a, b⟩
      rw [a, b] at this
      omega
    · intro a
      rw [a]
      exact ⟨Nat.mul_div_cancel_left U hD, Nat.mul_mod_right D U⟩
  unfold rUp goU rIn
  rw [← hU]
  by_cases c1 : b * U < lo
  · rw [if_pos c1, decide_eq_false (show ¬ lo ≤ b * U by omega)]
    rfl
  · rw [if_neg c1, decide_eq_true (show lo ≤ b * U by omega), decide_eq_true h1, decide_eq_true h2]
    by_cases c2 : hi < (b + 1) * U
    · rw [if_pos c2, decide_eq_false (show ¬ (b + 1) * U ≤ hi by omega)]
      rfl
    · rw [if_neg c2, decide_eq_true (show (b + 1) * U ≤ hi by omega)]
      by_cases c3 : 2 * r = D * U
      · obtain ⟨g1, g2⟩ := f2.2 c3
        rw [g1, g2, c3]
        simp
      · have g : ¬ (2 * r / D = U ∧ 2 * r % D = 0) := fun q => c3 (f2.1 q)
        have g2 : (D * U < 2 * r) ↔ U ≤ 2 * r / D := by rw [f1]; omega
        rw [decide_eq_false c3]
        generalize 2 * r / D = tw at *
        generalize 2 * r % D = z at *
        have e3 : decide (D * U < 2 * r) = decide (U ≤ tw) := by
          by_cases q : U ≤ tw
          · rw [decide_eq_true q, decide_eq_true (g2.2 q)]
          · rw [decide_eq_false q, decide_eq_false (fun y => q (g2.1 y))]
        rw [e3]
        by_cases q1 : tw = U
        · have q2 : ¬ z = 0 := fun y => g ⟨q1, y⟩
          simp [q1, q2]
        · simp [q1]
theorem back_iff {x c : Nat} {k : Int} {j : Nat} (hc : 0 < c) (hx2 : x < 9218868437227405312) (hk : pKind x = 1 ∨ pKind x = 2) (hj : k + tnF (pM x) (pE x) = (j : Int)) :
    NB (c * 10 ^ k.toNat) (10 ^ (-k).toNat) x ↔ rIn (bLow (pM x) (pE x) (tnF (pM x) (pE x))) (bHi (pM x) (pE x) (tnF (pM x) (pE x))) c j = true := by
  obtain ⟨p1, p2, p3, p4⟩ := kind_parts hk
  have hs := sc3_of p1 p2 ⟨p3, p4⟩
  have hN : 0 < c * 10 ^ k.toNat := Nat.mul_pos hc (Nat.pow_pos (by omega))
  have hKm : 0 < 10 ^ (-k).toNat := Nat.pow_pos (by omega)
  have hTp : 0 < 10 ^ (tnF (pM x) (pE x)).toNat := Nat.pow_pos (by omega)
  obtain ⟨f1, f2⟩ := cross_f (pE x) c j k _ hj
  obtain ⟨a1, a2⟩ := cross_le hTp hKm (f1 (bDn (pM x) (pE x))) f2
  obtain ⟨b1, b2⟩ := cross_le hTp hKm f2 (f1 (4 * pM x + 2))
  rw [rIn_iff, hs.loI, hs.hiI]
  constructor
  · intro h
    obtain ⟨q1, q2, q3, q4⟩ := quart hN hKm h hx2 hk
    rw [a1] at q1
    rw [a2] at q2
    rw [b1] at q3
    rw [b2] at q4
    refine ⟨?_, ?_⟩
    · rcases Nat.lt_or_eq_of_le q1 with g | g
      · exact .inl g
      · exact .inr ⟨g, q2 g⟩
    · rcases Nat.lt_or_eq_of_le q3 with g | g
      · exact .inl g
      · exact .inr ⟨g, q4 g⟩
  · rintro ⟨l, u⟩
    refine quart_back hN hKm hx2 hk (a1.2 ?_) (fun q => ?_) (b1.2 ?_) (fun q => ?_)
    · rcases l with g | g
      · exact Nat.le_of_lt g
      · exact Nat.le_of_eq g.1
    · have e := a2.1 q
      rcases l with g | g
      · exact absurd e (Nat.ne_of_lt g)
      · exact g.2
    · rcases u with g | g
      · exact Nat.le_of_lt g
      · exact Nat.le_of_eq g.1
    · have e := b2.1 q
      rcases u with g | g
      · exact absurd e (Nat.ne_of_lt g)
      · exact g.2
end Go.Proofs.YtpdjpjkieafnbaaGreatDoor.Li
set_option linter.unusedVariables false
set_option linter.unusedSimpArgs false
namespace Go.Proofs.YtpdjpjkieafnbaaGreatDoor.Li
open Go.RowKit Lb Nr
/-- The smallest numbers, one by one. -/
def smC (m P : Nat) : Bool :=
  let e : Int := -1074
  let lo := bLow m e (tnF m e)
  let hi := bHi m e (tnF m e)
  let V := 4 * m * sNum e (tnF m e)
  let D := sDen e (tnF m e)
  !(decide (P ≤ fwK m e)) || !(decide (V < 10 ^ P * D)) || !(decide (10 ^ (P - 1) * D ≤ V)) || (decide (V / (D * 10 ^ (P - 1)) = 9) && rUp lo hi (D * 10 ^ (P - 1)) 9 (V % (D * 10 ^ (P - 1))) (P - 1))
theorem smC_all : ((List.range 10).all fun m => m == 0 || (smC m 17 && smC m 18 && smC m 19)) = true := by decide +kernel
theorem smC_ok {m : Nat} (h0 : 0 < m) (hm : m < 10) {P : Nat} (hP : 17 ≤ P ∧ P ≤ 19) : smC m P = true := by
  have h := List.all_eq_true.1 smC_all m (List.mem_range.2 hm)
  have h1 : (m == 0) = false := by rw [beq_eq_false_iff_ne]; omega
  rw [h1, Bool.false_or, Bool.and_eq_true, Bool.and_eq_true] at h
  have : P = 17 ∨ P = 18 ∨ P = 19 := by omega
  rcases this with rfl | rfl | rfl
  · exact h.1.1
  · exact h.1.2
  · exact h.2
theorem fwK_pos {m : Nat} {e : Int} (hm0 : 0 < m) (hm : m < 9007199254740992) (he : -1074 ≤ e ∧ e ≤ 971) : 0 < fwK m e := by
  rcases Nat.eq_zero_or_pos (fwK m e) with q | q
  · exfalso
    have h := sc3_of hm0 hm he
    obtain ⟨-, -, -, -, -, a6, -⟩ := fw_main hm0 hm he
    have g := h.gap (U := 10 ^ (fwK m e + 1)) (Nat.pow_pos (by omega)) (a6 (by omega))
    rw [q] at g
    have e10 : (10 : Nat) ^ (0 + 1) = 10 := rfl
    rw [e10] at g
    have := h.vl
    have hd := h.dp
    generalize sDen e (tnF m e) = D at *
    generalize 4 * m * sNum e (tnF m e) = V at *
    omega
  · exact q
/-- What the reference finds, digit by digit, is what the program finds. -/
theorem dec_ok {m : Nat} {e : Int} (hm0 : 0 < m) (hm : m < 9007199254740992) (he : -1074 ≤ e ∧ e ≤ 971) (hsub : m < 10 → e = -1074) {P : Nat} (hP1 : 10 ^ (P - 1) * sDen e (tnF m e) ≤ 4 * m * sNum e (tnF m e)) (hP2 : 4 * m * sNum e (tnF m e) < 10 ^ P * sDen e (tnF m e)) :
    17 ≤ P ∧ P ≤ 19 ∧ ∃ j b : Nat, b = 4 * m * sNum e (tnF m e) / (sDen e (tnF m e) * 10 ^ j) ∧ 1 ≤ j ∧ P ≤ j + 17 ∧ j + 1 ≤ P ∧
      (∀ i, j < i → i + 1 ≤ P → ∀ c, rIn (bLow m e (tnF m e)) (bHi m e (tnF m e)) c i = false) ∧
      (rIn (bLow m e (tnF m e)) (bHi m e (tnF m e)) b j = true ∨ rIn (bLow m e (tnF m e)) (bHi m e (tnF m e)) (b + 1) j = true) ∧
      (((if rUp (bLow m e (tnF m e)) (bHi m e (tnF m e)) (sDen e (tnF m e) * 10 ^ j) b (4 * m * sNum e (tnF m e) % (sDen e (tnF m e) * 10 ^ j)) j = true then b + 1 else b) = fwD m e ∧ j = fwK m e) ∨
       ((if rUp (bLow m e (tnF m e)) (bHi m e (tnF m e)) (sDen e (tnF m e) * 10 ^ j) b (4 * m * sNum e (tnF m e) % (sDen e (tnF m e) * 10 ^ j)) j = true then b + 1 else b) = 10 ∧ fwD m e = 1 ∧ fwK m e = j + 1)) := by
  have h := sc3_of hm0 hm he
  obtain ⟨a1, a2, a3, a4, a5, a6, a7⟩ := fw_main hm0 hm he
  obtain ⟨u1, u2⟩ := unK_top (bLow m e (tnF m e)) (bHi m e (tnF m e)) 18
  have hKe : unK (bLow m e (tnF m e)) (bHi m e (tnF m e)) 18 = fwK m e := rfl
  rw [hKe] at u1 u2
  have hK18 : fwK m e ≤ 18 := unK_le _ _ _
  have hK0 := fwK_pos hm0 hm he
  have hB := fwB_eq m e
  have hDd : fwD m e = if goU (fwB m e) (10 ^ fwK m e) (8 * m * sNum e (tnF m e) / sDen e (tnF m e) - 2 * fwB m e * 10 ^ fwK m e) (decide (8 * m * sNum e (tnF m e) % sDen e (tnF m e) = 0)) (bLow m e (tnF m e)) (bHi m e (tnF m e)) = true then fwB m e + 1 else fwB m e := rfl
  have hsm : m < 10 → ∀ P, 17 ≤ P ∧ P ≤ 19 → (P ≤ fwK m e) → (4 * m * sNum e (tnF m e) < 10 ^ P * sDen e (tnF m e)) → (10 ^ (P - 1) * sDen e (tnF m e) ≤ 4 * m * sNum e (tnF m e)) → (4 * m * sNum e (tnF m e) / (sDen e (tnF m e) * 10 ^ (P - 1)) = 9 ∧ rUp (bLow m e (tnF m e)) (bHi m e (tnF m e)) (sDen e (tnF m e) * 10 ^ (P - 1)) 9 (4 * m * sNum e (tnF m e) % (sDen e (tnF m e) * 10 ^ (P - 1))) (P - 1) = true) := by
    intro q P hP g1 g2 g3
    have c := smC_ok hm0 q hP
    rw [hsub q] at g1 g2 g3 ⊢
    unfold smC at c
    simp only [decide_eq_true g1, decide_eq_true g2, decide_eq_true g3, Bool.not_true, Bool.false_or, Bool.and_eq_true] at c
    exact ⟨of_decide_eq_true c.1, c.2⟩
  have hW : 8 * m * sNum e (tnF m e) = 2 * (4 * m * sNum e (tnF m e)) := by rw [← Nat.mul_assoc]; congr 1; omega
  have hAB : (4 * m + 2) * sNum e (tnF m e) ≤ bDn m e * sNum e (tnF m e) + 4 * sNum e (tnF m e) := by
    rw [← Nat.add_mul]
    exact Nat.mul_le_mul_right _ (by unfold bDn; split <;> omega)
  have hB2 : 2 * ((4 * m + 2) * sNum e (tnF m e)) ≤ 3 * (4 * m * sNum e (tnF m e)) := by
    rw [← Nat.mul_assoc, ← Nat.mul_assoc]
    exact Nat.mul_le_mul_right _ (by omega)
  clear hKe hsub
  generalize fwD m e = d at *
  generalize fwB m e = b0 at *
  generalize fwK m e = K at *
  generalize bLow m e (tnF m e) = lo at *
  generalize bHi m e (tnF m e) = hi at *
  generalize hBe : (4 * m + 2) * sNum e (tnF m e) = B at *
  generalize hAe : bDn m e * sNum e (tnF m e) = A at *
  generalize hWe : 8 * m * sNum e (tnF m e) = W at *
  generalize hVe : 4 * m * sNum e (tnF m e) = V at *
  generalize sNum e (tnF m e) = N at *
  generalize sDen e (tnF m e) = D at *
  have hD := h.dp
  have hP17 : 17 ≤ P ∧ P ≤ 19 := by
    have v1 := h.vl
    have v2 := h.vh
    constructor
    · rcases Nat.lt_or_ge P 17 with q | q
      · exfalso
        have : 10 ^ P ≤ 10 ^ 16 := Nat.pow_le_pow_right (by omega) (by omega)
        have e16 : (10 : Nat) ^ 16 = 10000000000000000 := by decide
        rw [e16] at this
        have := Nat.mul_le_mul_right D this
        omega
      · exact q
    · rcases Nat.lt_or_ge 19 P with q | q
      · exfalso
        have : 10 ^ 19 ≤ 10 ^ (P - 1) := Nat.pow_le_pow_right (by omega) (by omega)
        have e16 : (10 : Nat) ^ 19 = 10000000000000000000 := by decide
        rw [e16] at this
        have := Nat.mul_le_mul_right D this
        omega
      · exact q
  refine ⟨hP17.1, hP17.2, ?_⟩
  have hlo0 : 0 < lo := by
    rcases Nat.eq_zero_or_pos lo with q | q
    · exfalso
      have := (h.loI 0).1 (by omega)
      have := h.a0
      omega
    · exact q
  have hU : 0 < 10 ^ K := Nat.pow_pos (by omega)
  by_cases hKP : K < P
  · refine ⟨K, b0, hB, hK0, ?_, hKP, ?_, ?_, .inl ⟨?_, rfl⟩⟩
    · rcases Nat.lt_or_ge (K + 17) P with q | q
      · exfalso
        have hK1 : K = 1 := by omega
        have hP19 : P = 19 := by omega
        have g := h.gap (U := 10 ^ (K + 1)) (Nat.pow_pos (by omega)) (a6 (by omega))
        rw [hK1] at g
        rw [hP19] at hP1
        have e2 : (10 : Nat) ^ (1 + 1) = 100 := rfl
        have e18 : (10 : Nat) ^ (19 - 1) = 1000000000000000000 := by decide
        rw [e2] at g
        rw [e18] at hP1
        omega
      · exact q
    · intro i h1 h2 c
      have hn := u2 i h1 (by omega)
      rw [rIn_not]
      rintro ⟨q1, q2⟩
      have := mult_in (Nat.pow_pos (by omega)) q2 q1
      omega
    all_goals
      have hDU : 0 < D * 10 ^ K := Nat.mul_pos hD hU
      have h1 : b0 * 10 ^ K * D ≤ V := by
        rw [hB, Nat.mul_assoc, Nat.mul_comm (10 ^ K) D]
        exact Nat.div_mul_le_self _ _
      have h2 : V < (b0 + 1) * 10 ^ K * D := by
        rw [Nat.mul_assoc, Nat.mul_comm (10 ^ K) D, hB]
        exact div_up V (D * 10 ^ K) hDU
      have c1 : b0 * 10 ^ K ≤ hi := (h.hiI _).2 (.inl (Nat.lt_of_le_of_lt h1 h.vb))
      have c4 : lo ≤ (b0 + 1) * 10 ^ K := (h.loI _).2 (.inl (Nat.lt_trans h.av h2))
      have hex : lo ≤ hi / 10 ^ K * 10 ^ K := mult_in hU a2 a1
      have c5 : lo ≤ b0 * 10 ^ K ∨ (b0 + 1) * 10 ^ K ≤ hi := by
        rcases Nat.lt_or_ge (b0 * 10 ^ K) lo with q | q
        · right
          have q2 : b0 * 10 ^ K < hi / 10 ^ K * 10 ^ K := Nat.lt_of_lt_of_le q hex
          have q3 := Nat.lt_of_mul_lt_mul_right q2
          exact Nat.le_trans (Nat.mul_le_mul_right (10 ^ K) q3) (Nat.div_mul_le_self _ _)
        · exact .inl q
    · rw [rIn_iff, rIn_iff]
      rcases c5 with q | q
      · exact .inl ⟨q, c1⟩
      · exact .inr ⟨c4, q⟩
    · have hV : V = b0 * (D * 10 ^ K) + V % (D * 10 ^ K) := by
        have := Nat.div_add_mod V (D * 10 ^ K)
        rw [← hB, Nat.mul_comm] at this
        exact this.symm
      rw [up_same hD rfl hV (Nat.mod_lt _ hDU) hW c1 c4 c5]
      exact hDd.symm
  · obtain ⟨j, hj⟩ : ∃ j, P = j + 1 := ⟨P - 1, by omega⟩
    subst hj
    rw [Nat.add_sub_cancel] at hP1
    have hle : 10 ^ (j + 1) ≤ 10 ^ K := Nat.pow_le_pow_right (by omega) (by omega)
    have b00 : b0 = 0 := by
      rw [hB]
      apply Nat.div_eq_of_lt
      have := Nat.mul_le_mul_right D hle
      rw [Nat.mul_comm D]
      omega
    have d1 : d = 1 := by
      rw [hDd, b00]
      unfold goU
      rw [if_pos (show 0 * 10 ^ K < lo by omega), if_pos rfl]
    rw [d1, Nat.one_mul] at a1 a2
    have hB3 : hi * D ≤ B := by
      rcases (h.hiI hi).1 (Nat.le_refl _) with q | q
      · exact Nat.le_of_lt q
      · exact Nat.le_of_eq q.1
    have hKj : K = j + 1 := by
      rcases Nat.lt_or_ge (j + 1) K with q | q
      · exfalso
        have g1 : 10 ^ (j + 2) ≤ 10 ^ K := Nat.pow_le_pow_right (by omega) (by omega)
        have g2 : (10 : Nat) ^ (j + 2) = 10 * 10 ^ (j + 1) := by rw [Nat.pow_succ' (m := 10) (n := j + 1)]
        have g3 := Nat.mul_le_mul_right D (Nat.le_trans g1 a2)
        rw [g2, Nat.mul_assoc] at g3
        omega
      · omega
    have hU' : 0 < 10 ^ j := Nat.pow_pos (by omega)
    have e10 : (10 : Nat) ^ (j + 1) = 10 * 10 ^ j := Nat.pow_succ'
    have lo10 : lo ≤ 10 * 10 ^ j := (h.loI _).2 (.inl (by rw [← e10]; exact Nat.lt_trans h.av hP2))
    have hi10 : 10 * 10 ^ j ≤ hi := by rw [← e10]; omega
    have key : V / (D * 10 ^ j) = 9 ∧ rUp lo hi (D * 10 ^ j) 9 (V % (D * 10 ^ j)) j = true := by
      by_cases q10 : m < 10
      · have := hsm q10 (j + 1) (by omega) (by omega) hP2 (by rw [Nat.add_sub_cancel]; exact hP1)
        rw [Nat.add_sub_cancel] at this
        exact this
      · have n9 : ¬ lo ≤ 9 * 10 ^ j := by
          intro q
          have g1 : A ≤ 9 * 10 ^ j * D := by
            rcases (h.loI _).1 q with y | y
            · exact Nat.le_of_lt y
            · exact Nat.le_of_eq y.1
          have g2 : 10 * 10 ^ j * D ≤ B := by
            rcases (h.hiI _).1 hi10 with y | y
            · exact Nat.le_of_lt y
            · exact Nat.le_of_eq y.1
          rw [e10] at hP2
          have g3 : 9 * 10 ^ j * D = 9 * (10 ^ j * D) := Nat.mul_assoc _ _ _
          have g4 : 10 * 10 ^ j * D = 10 * (10 ^ j * D) := Nat.mul_assoc _ _ _
          rw [g3] at g1
          rw [g4] at g2 hP2
          generalize 10 ^ j * D = X at *
          have g5 : 40 * N ≤ V := by
            rw [← hVe]
            exact Nat.mul_le_mul_right N (by omega)
          have := h.np
          omega
        have g6 : 9 * 10 ^ j * D ≤ A := by
          rcases Nat.lt_or_ge A (9 * 10 ^ j * D) with y | y
          · exact absurd ((h.loI _).2 (.inl y)) n9
          · exact y
        have g7 := h.av
        refine ⟨?_, ?_⟩
        · refine Nat.div_eq_of_lt_le ?_ ?_
          · rw [Nat.mul_comm D, ← Nat.mul_assoc]; omega
          · rw [Nat.mul_comm D, ← Nat.mul_assoc, ← e10]; exact hP2
        · unfold rUp
          rw [(rIn_not lo hi 9 j).2 (fun y => n9 y.1)]
          rfl
    obtain ⟨k1, k2⟩ := key
    refine ⟨j, 9, k1.symm, by omega, by omega, Nat.le_refl _, fun i h1 h2 => by omega, .inr ((rIn_iff ..).2 ⟨lo10, hi10⟩), .inr ⟨?_, d1, hKj⟩⟩
    rw [if_pos k2]
end Go.Proofs.YtpdjpjkieafnbaaGreatDoor.Li
set_option linter.unusedVariables false
set_option linter.unusedSimpArgs false
namespace Go.Proofs.YtpdjpjkieafnbaaGreatDoor.Li
open Go.RowKit Lb Nr
/-- The reference's nearest number, asked whether it is the one. -/
def NearBk (fV : Value) (M : Nat) (E T : Int) (lo hi : Nat) : Prop := ∀ (d : Nat) (z : Int) (v1 v2 : Value) (wx : World), 0 < d → d < 18446744073709551616 → 0 ≤ z + T → -400 ≤ z ∧ z ≤ 400 → Nv wx v1 (d * 10 ^ z.toNat) → Nv wx v2 (10 ^ (-z).toNat) →
  Calls Tryz.prog 54 #[v1, v2, fV] wx fun e w' => ∃ (inf : Bool) (M' : Nat) (E' : Int), e = .returned (numV false inf M' E') ∧ ((!inf && ((M' : Int) == (M : Int)) && (E' == E)) = rIn lo hi d (z + T).toNat) ∧ Keep wx w'
theorem ten_up (n : Nat) : ∀ q, n ≤ 8 * q → 10 ^ n ≤ 4294967296 ^ q := by
  intro q hq
  refine Nat.le_trans (Nat.pow_le_pow_right (by omega) hq) ?_
  rw [Nat.pow_mul]
  exact Nat.pow_le_pow_left (by decide) q
theorem ten_words {d n : Nat} (hd : d < 18446744073709551616) (hn : n ≤ 400) : d * 10 ^ n < 4294967296 ^ 60 := by
  have h1 : 10 ^ n ≤ 4294967296 ^ 50 := ten_up n 50 (by omega)
  have h2 : d * 10 ^ n ≤ d * 4294967296 ^ 50 := Nat.mul_le_mul_left _ h1
  have h3 : d * 4294967296 ^ 50 < 18446744073709551616 * 4294967296 ^ 50 := Nat.mul_lt_mul_of_pos_right hd (Nat.pow_pos (by omega))
  have h4 : (18446744073709551616 : Nat) * 4294967296 ^ 50 ≤ 4294967296 ^ 60 := by
    rw [show (18446744073709551616 : Nat) = 4294967296 ^ 2 by decide, ← Nat.pow_add]
    exact Nat.pow_le_pow_right (by omega) (by omega)
  exact Nat.lt_of_le_of_lt h2 (Nat.lt_of_lt_of_le h3 h4)
theorem nb_one {N D x : Nat} (hN : 0 < N) (hD : 0 < D) {E : Int} (hE : IsE N D E) : NB N D x ↔ x = wb (Nr.rup (sA N E) (sB D E)) E := by
  constructor
  · intro h
    exact h.2 hN E hE
  · intro h
    refine ⟨fun q => by omega, fun _ F hF => ?_⟩
    rw [isE_one hD hF hE]
    exact h
theorem near_parts {q : Nat} {E : Int} {x : Nat} (hM : q ≤ 9007199254740992) (hE : -1074 ≤ E) (hs : q < 4503599627370496 → E = -1074) (hx2 : x < 9218868437227405312) (hk : pKind x = 1 ∨ pKind x = 2) :
    x = wb q E ↔ ¬ 971 < rE q E ∧ rM q = pM x ∧ rE q E = pE x := by
  obtain ⟨p1, p2, p3, p4⟩ := kind_parts hk
  constructor
  · intro h
    rcases parts_wb h hM hE hs hk hx2 with ⟨a, b, c⟩ | ⟨a, b, c⟩
    · unfold rM rE
      rw [if_neg (by omega), if_neg (by omega)]
      exact ⟨by omega, b.symm, c.symm⟩
    · unfold rM rE
      rw [if_pos a, if_pos a]
      exact ⟨by omega, b.symm, c.symm⟩
  · rintro ⟨h1, h2, h3⟩
    obtain ⟨hwb, -⟩ := wb_parts hx2 hk
    rw [← h2, ← h3] at hwb
    rw [← hwb]
    unfold rM rE
    by_cases c : q = 9007199254740992
    · rw [if_pos c, if_pos c, c]
      unfold wb
      rw [if_pos (by omega), if_pos (by omega)]
      congr 1
      omega
    · rw [if_neg c, if_neg c]
theorem near_bk {x : Nat} (hx2 : x < 9218868437227405312) (hk : pKind x = 1 ∨ pKind x = 2) : NearBk wideV (pM x) (pE x) (tnF (pM x) (pE x)) (bLow (pM x) (pE x) (tnF (pM x) (pE x))) (bHi (pM x) (pE x) (tnF (pM x) (pE x))) := by
  intro d z v1 v2 wx hd hd2 hzT hz h1 h2
  have hN : 0 < d * 10 ^ z.toNat := Nat.mul_pos hd (Nat.pow_pos (by omega))
  have hD : 0 < 10 ^ (-z).toNat := Nat.pow_pos (by omega)
  have w1 : d * 10 ^ z.toNat < 4294967296 ^ 60 := ten_words hd2 (by omega)
  have w2 : 10 ^ (-z).toNat < 4294967296 ^ 60 := by
    have := ten_words (d := 1) (n := (-z).toNat) (by omega) (by omega)
    rw [Nat.one_mul] at this
    exact this
  have hbi := back_iff (x := x) (c := d) (k := z) (j := (z + tnF (pM x) (pE x)).toNat) hd hx2 hk (by omega)
  refine (rnearest_any v1 v2 _ _ 60 wx h1 h2 (by omega) w1 w2 hN hD).mono ?_
  rintro e w' ⟨E, hE, rfl, k⟩
  obtain ⟨s1, s2⟩ := small_E hD hE
  rw [nb_one hN hD hE, near_parts s1 hE.1 s2 hx2 hk] at hbi
  generalize rIn (bLow (pM x) (pE x) (tnF (pM x) (pE x))) (bHi (pM x) (pE x) (tnF (pM x) (pE x))) d (z + tnF (pM x) (pE x)).toNat = R at *
  unfold nearV
  generalize Nr.rup (sA (d * 10 ^ z.toNat) E) (sB (10 ^ (-z).toNat) E) = q at *
  by_cases c : 971 < rE q E
  · rw [if_pos c]
    refine ⟨true, 0, 0, rfl, ?_, k⟩
    cases R with
    | true => exact absurd c (hbi.2 rfl).1
    | false => rfl
  · rw [if_neg c]
    refine ⟨false, rM q, rE q E, rfl, ?_, k⟩
    rw [Bool.eq_iff_iff, ← hbi]
    simp only [Bool.not_false, Bool.true_and, Bool.and_eq_true, beq_iff_eq]
    constructor
    · rintro ⟨a, b⟩
      exact ⟨c, by omega, b⟩
    · rintro ⟨-, a, b⟩
      exact ⟨by omega, b⟩
end Go.Proofs.YtpdjpjkieafnbaaGreatDoor.Li
set_option linter.unusedVariables false
set_option linter.unusedSimpArgs false
namespace Go.Proofs.YtpdjpjkieafnbaaGreatDoor.Li.Nw
open Go.RowKit Lb Nr
theorem back_iff {x c : Nat} {k : Int} {j : Nat} (hc : 0 < c) (hx2 : x < 2139095040) (hk : pKind x = 1 ∨ pKind x = 2) (hj : k + tnF (pM x) (pE x) = (j : Int)) :
    NB (c * 10 ^ k.toNat) (10 ^ (-k).toNat) x ↔ rIn (bLow (pM x) (pE x) (tnF (pM x) (pE x))) (bHi (pM x) (pE x) (tnF (pM x) (pE x))) c j = true := by
  obtain ⟨p1, p2, p3, p4⟩ := kind_parts hk
  have hs := sc3_of p1 p2 ⟨p3, p4⟩
  have hN : 0 < c * 10 ^ k.toNat := Nat.mul_pos hc (Nat.pow_pos (by omega))
  have hKm : 0 < 10 ^ (-k).toNat := Nat.pow_pos (by omega)
  have hTp : 0 < 10 ^ (tnF (pM x) (pE x)).toNat := Nat.pow_pos (by omega)
  obtain ⟨f1, f2⟩ := cross_f (pE x) c j k _ hj
  obtain ⟨a1, a2⟩ := cross_le hTp hKm (f1 (bDn (pM x) (pE x))) f2
  obtain ⟨b1, b2⟩ := cross_le hTp hKm f2 (f1 (4 * pM x + 2))
  rw [rIn_iff, hs.loI, hs.hiI]
  constructor
  · intro h
    obtain ⟨q1, q2, q3, q4⟩ := quart hN hKm h hx2 hk
    rw [a1] at q1
    rw [a2] at q2
    rw [b1] at q3
    rw [b2] at q4
    refine ⟨?_, ?_⟩
    · rcases Nat.lt_or_eq_of_le q1 with g | g
      · exact .inl g
      · exact .inr ⟨g, q2 g⟩
    · rcases Nat.lt_or_eq_of_le q3 with g | g
      · exact .inl g
      · exact .inr ⟨g, q4 g⟩
  · rintro ⟨l, u⟩
    refine quart_back hN hKm hx2 hk (a1.2 ?_) (fun q => ?_) (b1.2 ?_) (fun q => ?_)
    · rcases l with g | g
      · exact Nat.le_of_lt g
      · exact Nat.le_of_eq g.1
    · have e := a2.1 q
      rcases l with g | g
      · exact absurd e (Nat.ne_of_lt g)
      · exact g.2
    · rcases u with g | g
      · exact Nat.le_of_lt g
      · exact Nat.le_of_eq g.1
    · have e := b2.1 q
      rcases u with g | g
      · exact absurd e (Nat.ne_of_lt g)
      · exact g.2
end Go.Proofs.YtpdjpjkieafnbaaGreatDoor.Li.Nw
set_option linter.unusedVariables false
set_option linter.unusedSimpArgs false
namespace Go.Proofs.YtpdjpjkieafnbaaGreatDoor.Li.Nw
open Go.RowKit Lb Nr
/-- The smallest numbers, one by one. -/
def smC (m P : Nat) : Bool :=
  let e : Int := -149
  let lo := bLow m e (tnF m e)
  let hi := bHi m e (tnF m e)
  let V := 4 * m * sNum e (tnF m e)
  let D := sDen e (tnF m e)
  !(decide (P ≤ fwK m e)) || !(decide (V < 10 ^ P * D)) || !(decide (10 ^ (P - 1) * D ≤ V)) || (decide (V / (D * 10 ^ (P - 1)) = 9) && rUp lo hi (D * 10 ^ (P - 1)) 9 (V % (D * 10 ^ (P - 1))) (P - 1))
theorem smC_all : ((List.range 10).all fun m => m == 0 || (smC m 17 && smC m 18 && smC m 19)) = true := by decide +kernel
theorem smC_ok {m : Nat} (h0 : 0 < m) (hm : m < 10) {P : Nat} (hP : 17 ≤ P ∧ P ≤ 19) : smC m P = true := by
  have h := List.all_eq_true.1 smC_all m (List.mem_range.2 hm)
  have h1 : (m == 0) = false := by rw [beq_eq_false_iff_ne]; omega
  rw [h1, Bool.false_or, Bool.and_eq_true, Bool.and_eq_true] at h
  have : P = 17 ∨ P = 18 ∨ P = 19 := by omega
  rcases this with rfl | rfl | rfl
  · exact h.1.1
  · exact h.1.2
  · exact h.2
theorem fwK_pos {m : Nat} {e : Int} (hm0 : 0 < m) (hm : m < 16777216) (he : -149 ≤ e ∧ e ≤ 104) : 0 < fwK m e := by
  rcases Nat.eq_zero_or_pos (fwK m e) with q | q
  · exfalso
    have h := sc3_of hm0 hm he
    obtain ⟨-, -, -, -, -, a6, -⟩ := fw_main hm0 hm he
    have g := h.gap (U := 10 ^ (fwK m e + 1)) (Nat.pow_pos (by omega)) (a6 (by omega))
    rw [q] at g
    have e10 : (10 : Nat) ^ (0 + 1) = 10 := rfl
    rw [e10] at g
    have := h.vl
    have hd := h.dp
    generalize sDen e (tnF m e) = D at *
    generalize 4 * m * sNum e (tnF m e) = V at *
    omega
  · exact q
/-- What the reference finds, digit by digit, is what the program finds. -/
theorem dec_ok {m : Nat} {e : Int} (hm0 : 0 < m) (hm : m < 16777216) (he : -149 ≤ e ∧ e ≤ 104) (hsub : m < 10 → e = -149) {P : Nat} (hP1 : 10 ^ (P - 1) * sDen e (tnF m e) ≤ 4 * m * sNum e (tnF m e)) (hP2 : 4 * m * sNum e (tnF m e) < 10 ^ P * sDen e (tnF m e)) :
    17 ≤ P ∧ P ≤ 19 ∧ ∃ j b : Nat, b = 4 * m * sNum e (tnF m e) / (sDen e (tnF m e) * 10 ^ j) ∧ 1 ≤ j ∧ P ≤ j + 17 ∧ j + 1 ≤ P ∧
      (∀ i, j < i → i + 1 ≤ P → ∀ c, rIn (bLow m e (tnF m e)) (bHi m e (tnF m e)) c i = false) ∧
      (rIn (bLow m e (tnF m e)) (bHi m e (tnF m e)) b j = true ∨ rIn (bLow m e (tnF m e)) (bHi m e (tnF m e)) (b + 1) j = true) ∧
      (((if rUp (bLow m e (tnF m e)) (bHi m e (tnF m e)) (sDen e (tnF m e) * 10 ^ j) b (4 * m * sNum e (tnF m e) % (sDen e (tnF m e) * 10 ^ j)) j = true then b + 1 else b) = fwD m e ∧ j = fwK m e) ∨
       ((if rUp (bLow m e (tnF m e)) (bHi m e (tnF m e)) (sDen e (tnF m e) * 10 ^ j) b (4 * m * sNum e (tnF m e) % (sDen e (tnF m e) * 10 ^ j)) j = true then b + 1 else b) = 10 ∧ fwD m e = 1 ∧ fwK m e = j + 1)) := by
  have h := sc3_of hm0 hm he
  obtain ⟨a1, a2, a3, a4, a5, a6, a7⟩ := fw_main hm0 hm he
  obtain ⟨u1, u2⟩ := unK_top (bLow m e (tnF m e)) (bHi m e (tnF m e)) 18
  have hKe : unK (bLow m e (tnF m e)) (bHi m e (tnF m e)) 18 = fwK m e := rfl
  rw [hKe] at u1 u2
  have hK18 : fwK m e ≤ 18 := unK_le _ _ _
  have hK0 := fwK_pos hm0 hm he
  have hB := fwB_eq m e
  have hDd : fwD m e = if goU (fwB m e) (10 ^ fwK m e) (8 * m * sNum e (tnF m e) / sDen e (tnF m e) - 2 * fwB m e * 10 ^ fwK m e) (decide (8 * m * sNum e (tnF m e) % sDen e (tnF m e) = 0)) (bLow m e (tnF m e)) (bHi m e (tnF m e)) = true then fwB m e + 1 else fwB m e := rfl
  have hsm : m < 10 → ∀ P, 17 ≤ P ∧ P ≤ 19 → (P ≤ fwK m e) → (4 * m * sNum e (tnF m e) < 10 ^ P * sDen e (tnF m e)) → (10 ^ (P - 1) * sDen e (tnF m e) ≤ 4 * m * sNum e (tnF m e)) → (4 * m * sNum e (tnF m e) / (sDen e (tnF m e) * 10 ^ (P - 1)) = 9 ∧ rUp (bLow m e (tnF m e)) (bHi m e (tnF m e)) (sDen e (tnF m e) * 10 ^ (P - 1)) 9 (4 * m * sNum e (tnF m e) % (sDen e (tnF m e) * 10 ^ (P - 1))) (P - 1) = true) := by
    intro q P hP g1 g2 g3
    have c := smC_ok hm0 q hP
    rw [hsub q] at g1 g2 g3 ⊢
    unfold smC at c
    simp only [decide_eq_true g1, decide_eq_true g2, decide_eq_true g3, Bool.not_true, Bool.false_or, Bool.and_eq_true] at c
    exact ⟨of_decide_eq_true c.1, c.2⟩
  have hW : 8 * m * sNum e (tnF m e) = 2 * (4 * m * sNum e (tnF m e)) := by rw [← Nat.mul_assoc]; congr 1; omega
  have hAB : (4 * m + 2) * sNum e (tnF m e) ≤ bDn m e * sNum e (tnF m e) + 4 * sNum e (tnF m e) := by
    rw [← Nat.add_mul]
    exact Nat.mul_le_mul_right _ (by unfold bDn; split <;> omega)
  have hB2 : 2 * ((4 * m + 2) * sNum e (tnF m e)) ≤ 3 * (4 * m * sNum e (tnF m e)) := by
    rw [← Nat.mul_assoc, ← Nat.mul_assoc]
    exact Nat.mul_le_mul_right _ (by omega)
  clear hKe hsub
  generalize fwD m e = d at *
  generalize fwB m e = b0 at *
  generalize fwK m e = K at *
  generalize bLow m e (tnF m e) = lo at *
  generalize bHi m e (tnF m e) = hi at *
  generalize hBe : (4 * m + 2) * sNum e (tnF m e) = B at *
  generalize hAe : bDn m e * sNum e (tnF m e) = A at *
  generalize hWe : 8 * m * sNum e (tnF m e) = W at *
  generalize hVe : 4 * m * sNum e (tnF m e) = V at *
  generalize sNum e (tnF m e) = N at *
  generalize sDen e (tnF m e) = D at *
  have hD := h.dp
  have hP17 : 17 ≤ P ∧ P ≤ 19 := by
    have v1 := h.vl
    have v2 := h.vh
    constructor
    · rcases Nat.lt_or_ge P 17 with q | q
      · exfalso
        have : 10 ^ P ≤ 10 ^ 16 := Nat.pow_le_pow_right (by omega) (by omega)
        have e16 : (10 : Nat) ^ 16 = 10000000000000000 := by decide
        rw [e16] at this
        have := Nat.mul_le_mul_right D this
        omega
      · exact q
    · rcases Nat.lt_or_ge 19 P with q | q
      · exfalso
        have : 10 ^ 19 ≤ 10 ^ (P - 1) := Nat.pow_le_pow_right (by omega) (by omega)
        have e16 : (10 : Nat) ^ 19 = 10000000000000000000 := by decide
        rw [e16] at this
        have := Nat.mul_le_mul_right D this
        omega
      · exact q
  refine ⟨hP17.1, hP17.2, ?_⟩
  have hlo0 : 0 < lo := by
    rcases Nat.eq_zero_or_pos lo with q | q
    · exfalso
      have := (h.loI 0).1 (by omega)
      have := h.a0
      omega
    · exact q
  have hU : 0 < 10 ^ K := Nat.pow_pos (by omega)
  by_cases hKP : K < P
  · refine ⟨K, b0, hB, hK0, ?_, hKP, ?_, ?_, .inl ⟨?_, rfl⟩⟩
    · rcases Nat.lt_or_ge (K + 17) P with q | q
      · exfalso
        have hK1 : K = 1 := by omega
        have hP19 : P = 19 := by omega
        have g := h.gap (U := 10 ^ (K + 1)) (Nat.pow_pos (by omega)) (a6 (by omega))
        rw [hK1] at g
        rw [hP19] at hP1
        have e2 : (10 : Nat) ^ (1 + 1) = 100 := rfl
        have e18 : (10 : Nat) ^ (19 - 1) = 1000000000000000000 := by decide
        rw [e2] at g
        rw [e18] at hP1
        omega
      · exact q
    · intro i h1 h2 c
      have hn := u2 i h1 (by omega)
      rw [rIn_not]
      rintro ⟨q1, q2⟩
      have := mult_in (Nat.pow_pos (by omega)) q2 q1
      omega
    all_goals
      have hDU : 0 < D * 10 ^ K := Nat.mul_pos hD hU
      have h1 : b0 * 10 ^ K * D ≤ V := by
        rw [hB, Nat.mul_assoc, Nat.mul_comm (10 ^ K) D]
        exact Nat.div_mul_le_self _ _
      have h2 : V < (b0 + 1) * 10 ^ K * D := by
        rw [Nat.mul_assoc, Nat.mul_comm (10 ^ K) D, hB]
        exact div_up V (D * 10 ^ K) hDU
      have c1 : b0 * 10 ^ K ≤ hi := (h.hiI _).2 (.inl (Nat.lt_of_le_of_lt h1 h.vb))
      have c4 : lo ≤ (b0 + 1) * 10 ^ K := (h.loI _).2 (.inl (Nat.lt_trans h.av h2))
      have hex : lo ≤ hi / 10 ^ K * 10 ^ K := mult_in hU a2 a1
      have c5 : lo ≤ b0 * 10 ^ K ∨ (b0 + 1) * 10 ^ K ≤ hi := by
        rcases Nat.lt_or_ge (b0 * 10 ^ K) lo with q | q
        · right
          have q2 : b0 * 10 ^ K < hi / 10 ^ K * 10 ^ K := Nat.lt_of_lt_of_le q hex
          have q3 := Nat.lt_of_mul_lt_mul_right q2
          exact Nat.le_trans (Nat.mul_le_mul_right (10 ^ K) q3) (Nat.div_mul_le_self _ _)
        · exact .inl q
    · rw [rIn_iff, rIn_iff]
      rcases c5 with q | q
      · exact .inl ⟨q, c1⟩
      · exact .inr ⟨c4, q⟩
    · have hV : V = b0 * (D * 10 ^ K) + V % (D * 10 ^ K) := by
        have := Nat.div_add_mod V (D * 10 ^ K)
        rw [← hB, Nat.mul_comm] at this
        exact this.symm
      rw [up_same hD rfl hV (Nat.mod_lt _ hDU) hW c1 c4 c5]
      exact hDd.symm
  · obtain ⟨j, hj⟩ : ∃ j, P = j + 1 := ⟨P - 1, by omega⟩
    subst hj
    rw [Nat.add_sub_cancel] at hP1
    have hle : 10 ^ (j + 1) ≤ 10 ^ K := Nat.pow_le_pow_right (by omega) (by omega)
    have b00 : b0 = 0 := by
      rw [hB]
      apply Nat.div_eq_of_lt
      have := Nat.mul_le_mul_right D hle
      rw [Nat.mul_comm D]
      omega
    have d1 : d = 1 := by
      rw [hDd, b00]
      unfold goU
      rw [if_pos (show 0 * 10 ^ K < lo by omega), if_pos rfl]
    rw [d1, Nat.one_mul] at a1 a2
    have hB3 : hi * D ≤ B := by
      rcases (h.hiI hi).1 (Nat.le_refl _) with q | q
      · exact Nat.le_of_lt q
      · exact Nat.le_of_eq q.1
    have hKj : K = j + 1 := by
      rcases Nat.lt_or_ge (j + 1) K with q | q
      · exfalso
        have g1 : 10 ^ (j + 2) ≤ 10 ^ K := Nat.pow_le_pow_right (by omega) (by omega)
        have g2 : (10 : Nat) ^ (j + 2) = 10 * 10 ^ (j + 1) := by rw [Nat.pow_succ' (m := 10) (n := j + 1)]
        have g3 := Nat.mul_le_mul_right D (Nat.le_trans g1 a2)
        rw [g2, Nat.mul_assoc] at g3
        omega
      · omega
    have hU' : 0 < 10 ^ j := Nat.pow_pos (by omega)
    have e10 : (10 : Nat) ^ (j + 1) = 10 * 10 ^ j := Nat.pow_succ'
    have lo10 : lo ≤ 10 * 10 ^ j := (h.loI _).2 (.inl (by rw [← e10]; exact Nat.lt_trans h.av hP2))
    have hi10 : 10 * 10 ^ j ≤ hi := by rw [← e10]; omega
    have key : V / (D * 10 ^ j) = 9 ∧ rUp lo hi (D * 10 ^ j) 9 (V % (D * 10 ^ j)) j = true := by
      by_cases q10 : m < 10
      · have := hsm q10 (j + 1) (by omega) (by omega) hP2 (by rw [Nat.add_sub_cancel]; exact hP1)
        rw [Nat.add_sub_cancel] at this
        exact this
      · have n9 : ¬ lo ≤ 9 * 10 ^ j := by
          intro q
          have g1 : A ≤ 9 * 10 ^ j * D := by
            rcases (h.loI _).1 q with y | y
            · exact Nat.le_of_lt y
            · exact Nat.le_of_eq y.1
          have g2 : 10 * 10 ^ j * D ≤ B := by
            rcases (h.hiI _).1 hi10 with y | y
            · exact Nat.le_of_lt y
            · exact Nat.le_of_eq y.1
          rw [e10] at hP2
          have g3 : 9 * 10 ^ j * D = 9 * (10 ^ j * D) := Nat.mul_assoc _ _ _
          have g4 : 10 * 10 ^ j * D = 10 * (10 ^ j * D) := Nat.mul_assoc _ _ _
          rw [g3] at g1
          rw [g4] at g2 hP2
          generalize 10 ^ j * D = X at *
          have g5 : 40 * N ≤ V := by
            rw [← hVe]
            exact Nat.mul_le_mul_right N (by omega)
          have := h.np
          omega
        have g6 : 9 * 10 ^ j * D ≤ A := by
          rcases Nat.lt_or_ge A (9 * 10 ^ j * D) with y | y
          · exact absurd ((h.loI _).2 (.inl y)) n9
          · exact y
        have g7 := h.av
        refine ⟨?_, ?_⟩
        · refine Nat.div_eq_of_lt_le ?_ ?_
          · rw [Nat.mul_comm D, ← Nat.mul_assoc]; omega
          · rw [Nat.mul_comm D, ← Nat.mul_assoc, ← e10]; exact hP2
        · unfold rUp
          rw [(rIn_not lo hi 9 j).2 (fun y => n9 y.1)]
          rfl
    obtain ⟨k1, k2⟩ := key
    refine ⟨j, 9, k1.symm, by omega, by omega, Nat.le_refl _, fun i h1 h2 => by omega, .inr ((rIn_iff ..).2 ⟨lo10, hi10⟩), .inr ⟨?_, d1, hKj⟩⟩
    rw [if_pos k2]
end Go.Proofs.YtpdjpjkieafnbaaGreatDoor.Li.Nw
set_option linter.unusedVariables false
set_option linter.unusedSimpArgs false
namespace Go.Proofs.YtpdjpjkieafnbaaGreatDoor.Li.Nw
open Go.RowKit Lb Nr
theorem nb_one {N D x : Nat} (hN : 0 < N) (hD : 0 < D) {E : Int} (hE : IsE N D E) : NB N D x ↔ x = wb (Nr.rup (sA N E) (sB D E)) E := by
  constructor
  · intro h
    exact h.2 hN E hE
  · intro h
    refine ⟨fun q => by omega, fun _ F hF => ?_⟩
    rw [isE_one hD hF hE]
    exact h
theorem near_parts {q : Nat} {E : Int} {x : Nat} (hM : q ≤ 16777216) (hE : -149 ≤ E) (hs : q < 8388608 → E = -149) (hx2 : x < 2139095040) (hk : pKind x = 1 ∨ pKind x = 2) :
    x = wb q E ↔ ¬ 104 < rE q E ∧ rM q = pM x ∧ rE q E = pE x := by
  obtain ⟨p1, p2, p3, p4⟩ := kind_parts hk
  constructor
  · intro h
    rcases parts_wb h hM hE hs hk hx2 with ⟨a, b, c⟩ | ⟨a, b, c⟩
    · unfold rM rE
      rw [if_neg (by omega), if_neg (by omega)]
      exact ⟨by omega, b.symm, c.symm⟩
    · unfold rM rE
      rw [if_pos a, if_pos a]
      exact ⟨by omega, b.symm, c.symm⟩
  · rintro ⟨h1, h2, h3⟩
    obtain ⟨hwb, -⟩ := wb_parts hx2 hk
    rw [← h2, ← h3] at hwb
    rw [← hwb]
    unfold rM rE
    by_cases c : q = 16777216
    · rw [if_pos c, if_pos c, c]
      unfold wb
      rw [if_pos (by omega), if_pos (by omega)]
      congr 1
      omega
    · rw [if_neg c, if_neg c]
theorem near_bk {x : Nat} (hx2 : x < 2139095040) (hk : pKind x = 1 ∨ pKind x = 2) : NearBk narrowV (pM x) (pE x) (tnF (pM x) (pE x)) (bLow (pM x) (pE x) (tnF (pM x) (pE x))) (bHi (pM x) (pE x) (tnF (pM x) (pE x))) := by
  intro d z v1 v2 wx hd hd2 hzT hz h1 h2
  have hN : 0 < d * 10 ^ z.toNat := Nat.mul_pos hd (Nat.pow_pos (by omega))
  have hD : 0 < 10 ^ (-z).toNat := Nat.pow_pos (by omega)
  have w1 : d * 10 ^ z.toNat < 4294967296 ^ 60 := ten_words hd2 (by omega)
  have w2 : 10 ^ (-z).toNat < 4294967296 ^ 60 := by
    have := ten_words (d := 1) (n := (-z).toNat) (by omega) (by omega)
    rw [Nat.one_mul] at this
    exact this
  have hbi := back_iff (x := x) (c := d) (k := z) (j := (z + tnF (pM x) (pE x)).toNat) hd hx2 hk (by omega)
  refine (rnearest_any v1 v2 _ _ 60 wx h1 h2 (by omega) w1 w2 hN hD).mono ?_
  rintro e w' ⟨E, hE, rfl, k⟩
  obtain ⟨s1, s2⟩ := small_E hD hE
  rw [nb_one hN hD hE, near_parts s1 hE.1 s2 hx2 hk] at hbi
  generalize rIn (bLow (pM x) (pE x) (tnF (pM x) (pE x))) (bHi (pM x) (pE x) (tnF (pM x) (pE x))) d (z + tnF (pM x) (pE x)).toNat = R at *
  unfold nearV
  generalize Nr.rup (sA (d * 10 ^ z.toNat) E) (sB (10 ^ (-z).toNat) E) = q at *
  by_cases c : 104 < rE q E
  · rw [if_pos c]
    refine ⟨true, 0, 0, rfl, ?_, k⟩
    cases R with
    | true => exact absurd c (hbi.2 rfl).1
    | false => rfl
  · rw [if_neg c]
    refine ⟨false, rM q, rE q E, rfl, ?_, k⟩
    rw [Bool.eq_iff_iff, ← hbi]
    simp only [Bool.not_false, Bool.true_and, Bool.and_eq_true, beq_iff_eq]
    constructor
    · rintro ⟨a, b⟩
      exact ⟨c, by omega, b⟩
    · rintro ⟨-, a, b⟩
      exact ⟨by omega, b⟩
end Go.Proofs.YtpdjpjkieafnbaaGreatDoor.Li.Nw
set_option linter.unusedVariables false
set_option linter.unusedSimpArgs false
namespace Go.Proofs.YtpdjpjkieafnbaaGreatDoor.Li
open Go.RowKit Lb Nr
theorem fV_new (w : World) (x y z : Int) : (w.alloc (.cells #[.int .i64 x, .int .i64 y, .int .i64 z] 32)).heap[w.heap.size]? = some (.cells #[.int .i64 x, .int .i64 y, .int .i64 z] 32 (0, 0)) := heap_alloc_new w _
/-- The box of a format. -/
def Fb (w : World) (g : Nat) (x y z : Int) : Prop := w.heap[g]? = some (.cells #[.int .i64 x, .int .i64 y, .int .i64 z] 32 (0, 0))
theorem Fb.keep {w w' : World} {g : Nat} {x y z : Int} (h : Fb w g x y z) (k : Keep w w') : Fb w' g x y z := by
  have hg : g < w.heap.size := by
    rcases Nat.lt_or_ge g w.heap.size with q | q
    · exact q
    · unfold Fb at h; rw [Array.getElem?_eq_none q] at h; cases h
  exact (k.block g hg).trans h
theorem Fb.cells {w : World} {g : Nat} {x y z : Int} (h : Fb w g x y z) : w.cell? ⟨g, 0, none⟩ = some (.int .i64 x) ∧ w.cell? ⟨g, 1, none⟩ = some (.int .i64 y) ∧ w.cell? ⟨g, 2, none⟩ = some (.int .i64 z) := by
  refine ⟨?_, ?_, ?_⟩
  all_goals
    rw [cell_of_row w g _ _ 32 (0, 0) h]
    rfl
/-- Both boxes at once. -/
theorem boxes (w : World) (a b c : Bool) (M : Nat) (E x y z : Int) : ∃ W, W = (w.alloc (.cells #[.bool a, .bool b, .bool c, .int .u64 (M : Int), .int .i64 E] 28)).alloc (.cells #[.int .i64 x, .int .i64 y, .int .i64 z] 32) ∧ Nb W w.heap.size a b c M E ∧ Fb W (w.heap.size + 1) x y z ∧ Keep w W := by
  refine ⟨_, rfl, (Nb.new w a b c M E).keep ((Keep.refl _).alloc _), ?_, ((Keep.refl w).alloc _).alloc _⟩
  have h := fV_new (w.alloc (.cells #[.bool a, .bool b, .bool c, .int .u64 (M : Int), .int .i64 E] 28)) x y z
  have hs : (w.alloc (.cells #[.bool a, .bool b, .bool c, .int .u64 (M : Int), .int .i64 E] 28)).heap.size = w.heap.size + 1 := by simp
  rw [hs] at h
  exact h
set_option maxRecDepth 100000 in
set_option maxHeartbeats 1600000 in
/-- Is a decimal read as the number? -/
theorem back_some (d : Nat) (z : Int) (a b c : Bool) (M : Nat) (E x y u T : Int) (lo hi : Nat) (w : World) (hd : 0 < d) (hd2 : d < 18446744073709551616) (hzT : 0 ≤ z + T) (hz : -400 ≤ z ∧ z ≤ 400) (hN : NearBk (.agg #[.int .i64 x, .int .i64 y, .int .i64 u]) M E T lo hi) :
    Calls Tryz.prog 104 #[.int .u64 (d : Int), .int .i64 z, .agg #[.bool a, .bool b, .bool c, .int .u64 (M : Int), .int .i64 E], .agg #[.int .i64 x, .int .i64 y, .int .i64 u]] w fun e w' => e = .returned (.bool (rIn lo hi d (z + T).toNat)) ∧ Keep w w' := by
  have hF := fun wx => from_nv d wx hd2
  have d0 : ((d : Int) == 0) = false := by rw [beq_eq_false_iff_ne]; omega
  obtain ⟨W, hW, B1, B2, kW⟩ := boxes w a b c M E x y u
  obtain ⟨B, hB⟩ : ∃ B, rIn lo hi d (z + T).toNat = B := ⟨_, rfl⟩
  rw [hB]
  have HN : Hid (∀ (v1 v2 : Value) (wx : World), Nv wx v1 (d * 10 ^ z.toNat) → Nv wx v2 (10 ^ (-z).toNat) → Calls Tryz.prog 54 #[v1, v2, .agg #[.int .i64 x, .int .i64 y, .int .i64 u]] wx fun e w' => ∃ (inf : Bool) (M' : Nat) (E' : Int), e = .returned (numV false inf M' E') ∧ ((!inf && ((M' : Int) == (M : Int)) && (E' == E)) = B) ∧ Keep wx w') := by
    intro v1 v2 wx h1 h2
    have := hN d z v1 v2 wx hd hd2 hzT hz h1 h2
    rw [hB] at this
    exact this
  clear hN hB hzT
  by_cases cz : 0 ≤ z
  · obtain ⟨n, rfl⟩ : ∃ n : Nat, z = (n : Int) := ⟨z.toNat, by omega⟩
    have e1 : (-(n : Int)).toNat = 0 := by omega
    rw [e1, Nat.pow_zero, Int.toNat_natCast] at HN
    have hT := fun v wx (h : Nv wx v d) => ten_nv v d n 60 wx h (ten_words hd2 (by omega)) (by omega) (by omega)
    have nn : decide ((0 : Int) ≤ (n : Int)) = true := decide_eq_true (by omega)
    go_enter Tryz.func104, Tryz.ntmps104
    go_wp2_with fail
    rw [← hW]
    clear hW
    refine (hF _).mono ?_
    rintro e w1 ⟨v1, rfl, n1, k1⟩
    obtain ⟨w2, hw2⟩ : ∃ w2, w1.alloc (.cells #[.int .u32 1] 40) = w2 := ⟨_, rfl⟩
    have n2 : Nv w2 (.slice (some ⟨w1.heap.size, 0, none⟩) 1 1) 1 := by rw [← hw2]; exact one_nv w1 _ (Keep.refl _)
    have k2 : Keep w1 w2 := by rw [← hw2]; exact (Keep.refl w1).alloc _
    have n1' := n1.keep k2
    have N2 : Hid (Nv w2 (.slice (some ⟨w1.heap.size, 0, none⟩) 1 1) 1) := n2
    have N1 : Hid (Nv w2 v1 d) := n1'
    clear n1 n1' n2
    go_wp2_with fail
    refine (hT _ _ N1.out).mono ?_
    rintro e w3 ⟨v3, rfl, n3, k3⟩
    have N3 : Hid (Nv w3 v3 (d * 10 ^ n)) := n3
    clear n3
    have kW3 := (k1.trans k2).trans k3
    have F3 := B2.keep kW3
    obtain ⟨f0, f1, f2⟩ := F3.cells
    have N4 : Hid (Nv w3 (.slice (some ⟨w1.heap.size, 0, none⟩) 1 1) 1) := N2.out.keep k3
    have K3 : Hid (Keep w w3) := kW.trans kW3
    have B3 : Hid (Nb w3 w.heap.size a b c M E) := B1.keep kW3
    clear F3
    go_wp2_with fail
    refine (HN.out _ _ _ N3.out N4.out).mono ?_
    rintro e w4 ⟨inf, M', E', rfl, hR, k4⟩
    obtain ⟨w5, hw5⟩ : ∃ w5, w4.alloc (.cells #[.bool false, .bool inf, .bool false, .int .u64 (M' : Int), .int .i64 E'] 28) = w5 := ⟨_, rfl⟩
    have k5 : Keep w4 w5 := by rw [← hw5]; exact (Keep.refl w4).alloc _
    have B5 : Nb w5 w4.heap.size false inf false M' E' := by rw [← hw5]; exact Nb.new w4 _ _ _ _ _
    obtain ⟨g0, g1, g2, g3, g4⟩ := B5.cells
    obtain ⟨i0, i1, i2, i3, i4⟩ := ((B3.out.keep k4).keep k5).cells
    have K5 : Hid (Keep w w5) := (K3.out.trans k4).trans k5
    clear B5 k4 k5 k3 k2 k1 kW3 kW
    have HR : Hid ((!inf && ((M' : Int) == (M : Int)) && (E' == E)) = B) := hR
    clear hR
    unfold numV
    cases inf with
    | true =>
      go_wp2_with fail
      go_ret
      exact ⟨by rw [← HR.out]; rfl, K5.out⟩
    | false =>
      have hR := HR.out
      rw [Bool.not_false, Bool.true_and] at hR
      by_cases q1 : ((M' : Int) == (M : Int)) = true
      · rw [q1, Bool.true_and] at hR
        go_wp2_with fail
        go_ret
        exact ⟨by rw [← hR]; rfl, K5.out⟩
      · rw [Bool.not_eq_true] at q1
        rw [q1, Bool.false_and] at hR
        have HR2 : Hid (false = B) := hR
        clear hR
        go_wp2_with fail
        go_ret
        exact ⟨by rw [← HR2.out]; rfl, K5.out⟩
  · obtain ⟨n, rfl⟩ : ∃ n : Nat, z = -(n : Int) := ⟨(-z).toNat, by omega⟩
    have e1 : (-(n : Int)).toNat = 0 := by omega
    rw [e1, Nat.pow_zero, Nat.mul_one, Int.neg_neg, Int.toNat_natCast] at HN
    have hT := fun v wx (h : Nv wx v 1) => ten_nv v 1 n 60 wx h (ten_words (by omega) (by omega)) (by omega) (by omega)
    rw [Nat.one_mul] at hT
    have nn : decide ((0 : Int) ≤ -(n : Int)) = false := decide_eq_false (by omega)
    have hwn : IntKind.i64.wrap (- -(n : Int)) = (n : Int) := by rw [IntWalk.i64_left, Int.neg_neg]; exact IntWalk.wrap64_in _ (by omega)
    go_enter Tryz.func104, Tryz.ntmps104
    go_wp2_with fail
    rw [← hW]
    clear hW
    refine (hF _).mono ?_
    rintro e w1 ⟨v1, rfl, n1, k1⟩
    obtain ⟨w2, hw2⟩ : ∃ w2, w1.alloc (.cells #[.int .u32 1] 40) = w2 := ⟨_, rfl⟩
    have n2 : Nv w2 (.slice (some ⟨w1.heap.size, 0, none⟩) 1 1) 1 := by rw [← hw2]; exact one_nv w1 _ (Keep.refl _)
    have k2 : Keep w1 w2 := by rw [← hw2]; exact (Keep.refl w1).alloc _
    have n1' := n1.keep k2
    have N2 : Hid (Nv w2 (.slice (some ⟨w1.heap.size, 0, none⟩) 1 1) 1) := n2
    have N1 : Hid (Nv w2 v1 d) := n1'
    clear n1 n1' n2
    go_wp2_with fail
    refine (hT _ _ N2.out).mono ?_
    rintro e w3 ⟨v3, rfl, n3, k3⟩
    have N4 : Hid (Nv w3 v3 (10 ^ n)) := n3
    clear n3
    have kW3 := (k1.trans k2).trans k3
    have F3 := B2.keep kW3
    obtain ⟨f0, f1, f2⟩ := F3.cells
    have N3 : Hid (Nv w3 v1 d) := N1.out.keep k3
    have K3 : Hid (Keep w w3) := kW.trans kW3
    have B3 : Hid (Nb w3 w.heap.size a b c M E) := B1.keep kW3
    clear F3
    go_wp2_with fail
    refine (HN.out _ _ _ N3.out N4.out).mono ?_
    rintro e w4 ⟨inf, M', E', rfl, hR, k4⟩
    obtain ⟨w5, hw5⟩ : ∃ w5, w4.alloc (.cells #[.bool false, .bool inf, .bool false, .int .u64 (M' : Int), .int .i64 E'] 28) = w5 := ⟨_, rfl⟩
    have k5 : Keep w4 w5 := by rw [← hw5]; exact (Keep.refl w4).alloc _
    have B5 : Nb w5 w4.heap.size false inf false M' E' := by rw [← hw5]; exact Nb.new w4 _ _ _ _ _
    obtain ⟨g0, g1, g2, g3, g4⟩ := B5.cells
    obtain ⟨i0, i1, i2, i3, i4⟩ := ((B3.out.keep k4).keep k5).cells
    have K5 : Hid (Keep w w5) := (K3.out.trans k4).trans k5
    clear B5 k4 k5 k3 k2 k1 kW3 kW
    have HR : Hid ((!inf && ((M' : Int) == (M : Int)) && (E' == E)) = B) := hR
    clear hR
    unfold numV
    cases inf with
    | true =>
      go_wp2_with fail
      go_ret
      exact ⟨by rw [← HR.out]; rfl, K5.out⟩
    | false =>
      have hR := HR.out
      rw [Bool.not_false, Bool.true_and] at hR
      by_cases q1 : ((M' : Int) == (M : Int)) = true
      · rw [q1, Bool.true_and] at hR
        go_wp2_with fail
        go_ret
        exact ⟨by rw [← hR]; rfl, K5.out⟩
      · rw [Bool.not_eq_true] at q1
        rw [q1, Bool.false_and] at hR
        have HR2 : Hid (false = B) := hR
        clear hR
        go_wp2_with fail
        go_ret
        exact ⟨by rw [← HR2.out]; rfl, K5.out⟩
end Go.Proofs.YtpdjpjkieafnbaaGreatDoor.Li
set_option linter.unusedVariables false
set_option linter.unusedSimpArgs false
namespace Go.Proofs.YtpdjpjkieafnbaaGreatDoor.Li.Nw
open Go.RowKit Lb
theorem uTop (b : Nat) (hb : b < 4294967296) : bits .and .u64 ((b : Int) / 8388608) 255 = ((pField b : Nat) : Int) := by
  have e : (b : Int) / 8388608 = ((b / 8388608 : Nat) : Int) := by omega
  have := u64_and_nat (b / 8388608) 255 (by omega) (by omega)
  rw [show b / 8388608 &&& 255 = b / 8388608 % 256 from Nat.and_two_pow_sub_one_eq_mod _ 8] at this
  rw [e]
  exact this
theorem uNeg (b : Nat) (hb : b < 4294967296) : (bits .and .u64 ((b : Int) / 2147483648) 1 == 1) = pNeg b := by
  have e : (b : Int) / 2147483648 = ((b / 2147483648 : Nat) : Int) := by omega
  have := u64_and_nat (b / 2147483648) 1 (by omega) (by omega)
  rw [show b / 2147483648 &&& 1 = b / 2147483648 % 2 from Nat.and_one_is_mod _] at this
  rw [e]
  have h' : bits .and .u64 ((b / 2147483648 : Nat) : Int) 1 = ((b / 2147483648 % 2 : Nat) : Int) := this
  rw [h']
  unfold pNeg
  rw [Bool.eq_iff_iff]
  simp only [beq_iff_eq, decide_eq_true_eq]
  omega
def ofV (b : Nat) : Value := .agg #[.bool (pNeg b), .bool (decide (pKind b = 3)), .bool (decide (pKind b = 4)), .int .u64 (pM b : Nat), .int .i64 (if pField b = 255 then 0 else if 0 < pField b then -149 + (pField b : Int) - 1 else -149)]
set_option maxRecDepth 100000 in
set_option maxHeartbeats 1000000 in
theorem Of_any (b : Nat) (hb : b < 4294967296) (w : World) :
    Calls Tryz.prog 20 #[.int .u64 (b : Nat), .agg #[.int .i64 24, .int .i64 (-149), .int .i64 104]] w fun e w' => e = .returned (ofV b) ∧ Keep w w' := by
  have h1 := uTop b hb
  have h2 := uNeg b hb
  have h3 := and52 b (by omega)
  have hf : pField b < 256 := Nat.mod_lt _ (by omega)
  have hkp : pKept b < 8388608 := Nat.mod_lt _ (by omega)
  have h4 : wrap64 ((pField b : Nat) : Int) = (pField b : Nat) := IntWalk.wrap64_in _ (by omega)
  have HV : Hid (ofV b = .agg #[.bool (pNeg b), .bool (decide (pKind b = 3)), .bool (decide (pKind b = 4)), .int .u64 (pM b : Nat), .int .i64 (if pField b = 255 then 0 else if 0 < pField b then -149 + (pField b : Int) - 1 else -149)]) := rfl
  have HK : Hid (pKind b = if pField b = 255 then (if pKept b = 0 then 3 else 4) else if 0 < pField b then 2 else if 0 < pKept b then 1 else 0) := rfl
  have HM : Hid (pM b = if 0 < pField b ∧ pField b < 255 then 8388608 + pKept b else pKept b) := rfl
  have h5 := or52 (pKept b) hkp
  generalize ofV b = V at *
  generalize pField b = f at *
  generalize pKept b = kp at *
  generalize pNeg b = ng at *
  generalize pKind b = Kd at *
  generalize pM b = M at *
  by_cases g1 : f = 255
  · subst g1
    go_enter Tryz.func20, Tryz.ntmps20
    go_wp2_with fail
    refine bodyPost_ret (results_cell_row rfl _ _ (w.heap.size + 1) 28 _ (0, 0) _ rfl (mid w _ _ _) Tryz.underlying28 rfl (by kernel_rfl)) rfl ?_
    rw [HV.out, HK.out, HM.out]
    refine ⟨?_, (((Keep.refl w).alloc _).alloc _).alloc _⟩
    by_cases g2 : kp = 0
    · subst g2; rfl
    · have e1 : ((kp : Int) == 0) = false := by rw [beq_eq_false_iff_ne]; omega
      have e2 : ((kp : Int) != 0) = true := by rw [bne_iff_ne]; omega
      rw [e1, e2]
      simp [g2]
  · have n1 : ((f : Int) == 255) = false := by rw [beq_eq_false_iff_ne]; omega
    by_cases g2 : f = 0
    · subst g2
      go_enter Tryz.func20, Tryz.ntmps20
      go_wp2_with fail
      refine bodyPost_ret (results_cell_row rfl _ _ (w.heap.size + 1) 28 _ (0, 0) _ rfl (mid w _ _ _) Tryz.underlying28 rfl (by kernel_rfl)) rfl ?_
      rw [HV.out, HK.out, HM.out]
      refine ⟨?_, (((Keep.refl w).alloc _).alloc _).alloc _⟩
      by_cases g3 : kp = 0
      · subst g3; rfl
      · simp [show 0 < kp by omega]
    · have n2 : ((f : Int) == 0) = false := by rw [beq_eq_false_iff_ne]; omega
      have h6 := IntWalk.wrap64_in ((f : Int) - 1) (by omega)
      have h7 := IntWalk.wrap64_in ((f : Int) - 1 + -149) (by omega)
      have h8 : bits .or .u64 (kp : Int) 8388608 = ((8388608 + kp : Nat) : Int) := by
        have h := u64_or_nat kp 8388608 (by omega) (by omega)
        rw [Nat.or_comm, show 8388608 ||| kp = 8388608 + kp from (Nat.two_pow_add_eq_or_of_lt (i := 23) hkp 1).symm] at h
        exact h
      go_enter Tryz.func20, Tryz.ntmps20
      go_wp2_with fail
      refine bodyPost_ret (results_cell_row rfl _ _ (w.heap.size + 1) 28 _ (0, 0) _ rfl (mid w _ _ _) Tryz.underlying28 rfl (by kernel_rfl)) rfl ?_
      rw [HV.out, HK.out, HM.out]
      refine ⟨?_, (((Keep.refl w).alloc _).alloc _).alloc _⟩
      rw [if_neg g1, if_pos (show 0 < f by omega), if_pos (show 0 < f ∧ f < 255 by omega), if_neg g1, if_pos (show 0 < f by omega), show -149 + (f : Int) - 1 = f - 1 + -149 by omega]
      rfl
end Go.Proofs.YtpdjpjkieafnbaaGreatDoor.Li.Nw
