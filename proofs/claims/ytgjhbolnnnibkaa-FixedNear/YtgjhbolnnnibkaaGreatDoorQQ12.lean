import Derived.Test.YtgjhbolnnnibkaaGreatDoorProg
import Derived.Test.YtgjhbolnnnibkaaGreatDoorNC9
import Derived.Test.YtgjhbolnnnibkaaGreatDoorNC10
import Derived.Test.YtgjhbolnnnibkaaGreatDoorNB2
import Derived.Test.YtgjhbolnnnibkaaGreatDoorQQ9
import Derived.WalkKit
import Derived.WalkSpells
import Derived.WalkLawsBesides
import Derived.Laws.CopyOwn
import Derived.Deep.Draws
import Derived.Deep.QuietTactic
import Derived.BigQuiet
import Derived.Laws.MathBits
import Derived.Laws.Externs
import Derived.Laws.BytesArg
import Derived.Lib.OthersKept
import Derived.Deep.RegionWith
import Derived.WalkMore
import Derived.Deep.LoopGhost
import Derived.Deep.RegionHeld3
set_option linter.unusedVariables false
set_option linter.unusedSimpArgs false
namespace Go.Proofs.YtgjhbolnnnibkaaGreatDoor.Li
open Go.RowKit Lb
theorem odd_gcd {m : Nat} (h : m % 2 = 1) : ∀ k, Nat.gcd m (2 ^ k) = 1
  | 0 => by simp
  | k + 1 => by
    have h2 : Nat.Coprime m 2 := by
      unfold Nat.Coprime
      rw [Nat.gcd_comm, Nat.gcd_rec, h]
      rfl
    have := odd_gcd h k
    rw [Nat.pow_succ]
    exact Nat.Coprime.mul_right this h2
/-- How often two goes into a number. -/
def twos : Nat → Nat → Nat
  | 0, _ => 0
  | f + 1, m => if m % 2 = 0 then twos f (m / 2) + 1 else 0
theorem twos_odd : ∀ (f m : Nat), 0 < m → m < 2 ^ f → m = (m / 2 ^ twos f m) * 2 ^ twos f m ∧ (m / 2 ^ twos f m) % 2 = 1 ∧ twos f m < f
  | 0, m, h0, h => by simp at h; omega
  | f + 1, m, h0, h => by
    rw [twos]
    split
    · rename_i h2
      have hm : m / 2 < 2 ^ f := by rw [Nat.pow_succ] at h; omega
      obtain ⟨a, b, c⟩ := twos_odd f (m / 2) (by omega) hm
      have e : m / 2 ^ (twos f (m / 2) + 1) = m / 2 / 2 ^ twos f (m / 2) := by
        rw [Nat.pow_succ, Nat.mul_comm, ← Nat.div_div_eq_div_mul]
      rw [e]
      refine ⟨?_, b, by omega⟩
      rw [Nat.pow_succ, ← Nat.mul_assoc, ← a]
      omega
    · rename_i h2
      simp only [Nat.pow_zero, Nat.div_one, Nat.mul_one]
      exact ⟨trivial, by omega, by omega⟩
/-- Lowest terms of an odd number times a power of two over a power of two. -/
theorem low_pow {o t k : Nat} (ho : o % 2 = 1) : (o * 2 ^ t) / Nat.gcd (o * 2 ^ t) (2 ^ k) = o * 2 ^ (t - k) ∧ 2 ^ k / Nat.gcd (o * 2 ^ t) (2 ^ k) = 2 ^ (k - t) := by
  rcases Nat.le_total t k with h | h
  · have e : 2 ^ k = 2 ^ (k - t) * 2 ^ t := by rw [← Nat.pow_add]; congr 1; omega
    have g : Nat.gcd (o * 2 ^ t) (2 ^ k) = 2 ^ t := by
      rw [e, Nat.gcd_mul_right, odd_gcd ho, Nat.one_mul]
    have hp : 0 < 2 ^ t := Nat.two_pow_pos t
    rw [g]
    refine ⟨?_, ?_⟩
    · rw [Nat.mul_div_cancel _ hp, show t - k = 0 by omega, Nat.pow_zero, Nat.mul_one]
    · rw [e, Nat.mul_div_cancel _ hp]
  · have e : o * 2 ^ t = (o * 2 ^ (t - k)) * 2 ^ k := by rw [Nat.mul_assoc, ← Nat.pow_add]; congr 2; omega
    have hp : 0 < 2 ^ k := Nat.two_pow_pos k
    have g : Nat.gcd (o * 2 ^ t) (2 ^ k) = 2 ^ k := by
      rw [e]
      exact Nat.gcd_eq_right (Nat.dvd_mul_left _ _)
    rw [g]
    refine ⟨?_, ?_⟩
    · rw [e, Nat.mul_div_cancel _ hp]
    · rw [Nat.div_self hp, show k - t = 0 by omega]
theorem lowest (M : Nat) (E : Int) (h0 : 0 < M) (hM : M < 2 ^ 53) :
    RN (M * 2 ^ E.toNat) (2 ^ (-E).toNat) = M / 2 ^ twos 53 M * 2 ^ (E + twos 53 M).toNat ∧ RD (M * 2 ^ E.toNat) (2 ^ (-E).toNat) = 2 ^ (-(E + twos 53 M)).toNat := by
  obtain ⟨e1, e2, e3⟩ := twos_odd 53 M h0 hM
  generalize hT : twos 53 M = t at *
  generalize hO : M / 2 ^ t = o at *
  have hd : (2 : Nat) ^ (-E).toNat ≠ 0 := Nat.pos_iff_ne_zero.1 (Nat.two_pow_pos _)
  unfold RN RD
  rw [if_neg hd, if_neg hd]
  have h := low_pow (t := t + E.toNat) (k := (-E).toNat) e2
  have e4 : M * 2 ^ E.toNat = o * 2 ^ (t + E.toNat) := by rw [e1, Nat.mul_assoc, ← Nat.pow_add]
  rw [e4]
  rw [show (E + t).toNat = t + E.toNat - (-E).toNat by omega, show (-(E + t)).toNat = (-E).toNat - (t + E.toNat) by omega]
  exact h
end Go.Proofs.YtgjhbolnnnibkaaGreatDoor.Li
set_option linter.unusedVariables false
set_option linter.unusedSimpArgs false
namespace Go.Proofs.YtgjhbolnnnibkaaGreatDoor.Li
open Go.RowKit Lb
theorem one_nv (w : World) (w' : World) (k : Keep (w.alloc (.cells #[.int .u32 1] 72)) w') : Nv w' (.slice (some ⟨w.heap.size, 0, none⟩) 1 1) 1 := by
  have hrow : Row (w.alloc (.cells #[.int .u32 1] 72)) w.heap.size [1] := by
    unfold Row; rw [heap_alloc_new]; simp [U]
  exact ⟨_, 1, [1], rfl, by simp, (hrow.rd 0 1 (by simp)).keep k, by intro x hx; simp at hx; omega, by simp [Nrm], by simp [val]⟩
theorem twos_step {f m : Nat} (h : m % 2 = 0) : twos (f + 1) m = twos f (m / 2) + 1 := by rw [twos, if_pos h]
set_option maxRecDepth 100000 in
set_option maxHeartbeats 400000 in
theorem Ratio_zero (a b c : Bool) (E : Int) (w : World) :
    Calls Tryz.prog 22 #[.agg #[.bool a, .bool b, .bool c, .int .u64 0, .int .i64 E]] w fun e w' => ∃ v, e = .returned (.tuple #[.slice none 0 0, v]) ∧ Nv w' v 1 ∧ Keep w w' := by
  go_enter Tryz.func22, Tryz.ntmps22
  go_wp2_with fail
  go_ret2
  exact ⟨_, rfl, by simpa using one_nv (w.alloc (.cells #[.bool a, .bool b, .bool c, .int .u64 0, .int .i64 E] 51)) _ (Keep.refl _), ((Keep.refl w).alloc _).alloc _⟩
set_option maxRecDepth 100000 in
set_option maxHeartbeats 400000 in
theorem Ratio_some (a b c : Bool) (M : Nat) (E : Int) (w : World) (h0 : 0 < M) (hM : M < 9007199254740992) (hE : -1074 ≤ E ∧ E ≤ 1000) :
    Calls Tryz.prog 22 #[.agg #[.bool a, .bool b, .bool c, .int .u64 (M : Nat), .int .i64 E]] w fun e w' => ∃ v1 v2, e = .returned (.tuple #[v1, v2]) ∧ Nv w' v1 (RN (M * 2 ^ E.toNat) (2 ^ (-E).toNat)) ∧ Nv w' v2 (RD (M * 2 ^ E.toNat) (2 ^ (-E).toNat)) ∧ Keep w w' := by
  have hlow := lowest M E h0 (by omega)
  obtain ⟨e1, e2, e3⟩ := twos_odd 53 M h0 (by omega)
  rw [hlow.1, hlow.2]
  clear hlow
  replace e1 : Hid _ := e1
  replace e2 : Hid _ := e2
  obtain ⟨T, hT⟩ : ∃ T, twos 53 M = T := ⟨_, rfl⟩
  obtain ⟨O, hO⟩ : ∃ O, M / 2 ^ T = O := ⟨_, rfl⟩
  rw [hT] at e1 e2 e3 ⊢
  rw [hO] at e1 e2 ⊢
  have hne : ((M : Int) == 0) = false := by rw [beq_eq_false_iff_ne]; omega
  go_enter Tryz.func22, Tryz.ntmps22
  go_wp2_with fail
  go_loopw [4, 5] (fun m e wr => ∃ (n k : Nat), m = .int .u64 n ∧ e = .int .i64 (E + k) ∧ 0 < n ∧ n ≤ M ∧ Hid (k + (twos (53 - k) n) = T) ∧ k ≤ 53 ∧ Hid (n < 2 ^ (53 - k)) ∧ Hid (n * 2 ^ k = M) ∧ Keep w wr) (fun m _ _ => (intOf m).toNat)
  case atStart => exact ⟨M, 0, rfl, by simp, h0, by omega, by show _ = _; rw [← hT]; simp, by omega, by show _ < _; omega, by show _ = _; simp, (Keep.refl w).alloc _⟩
  case round =>
    obtain ⟨n, k, rfl, rfl, hn0, hnM, hk, hk53, hnl, hv, hkp⟩ := hrel
    by_cases h2 : n % 2 = 0
    · have g2 : ((n : Int) % 2 == 0) = true := by rw [beq_iff_eq]; omega
      have hk54 : k < 53 := by
        rcases Nat.lt_or_ge k 53 with h | h
        · exact h
        · have h' := hnl.out; rw [show 53 - k = 0 by omega] at h'; omega
      have hw : wrap64 (E + k + 1) = E + (k : Int) + 1 := IntWalk.wrap64_in _ (by omega)
      have hs := twos_step (f := 53 - (k + 1)) h2
      rw [show 53 - (k + 1) + 1 = 53 - k by omega] at hs
      have HS : Hid (k + 1 + twos (53 - (k + 1)) (n / 2) = T) := by show _ = _; have := hk.out; omega
      have HV : Hid (n / 2 * 2 ^ (k + 1) = M) := by
        show _ = _
        rw [← hv.out, Nat.pow_succ, Nat.mul_comm _ 2, ← Nat.mul_assoc]
        congr 1; omega
      have HL : Hid (n / 2 < 2 ^ (53 - (k + 1))) := by
        show _ < _
        have h' := hnl.out
        rw [show 53 - k = 53 - (k + 1) + 1 by omega, Nat.pow_succ] at h'
        omega
      clear hs hk hnl
      go_wp2_with fail
      go_roundw
      case rel => exact ⟨n / 2, k + 1, by go_num, by go_num, by omega, by omega, HS, by omega, HL, HV, hkp⟩
      case measure => simp [intOf]; omega
    · have g2 : ((n : Int) % 2 == 0) = false := by rw [beq_eq_false_iff_ne]; omega
      have hkT : k = T := by
        have h' := hk.out
        have : twos (53 - k) n = 0 := by
          rcases hf : 53 - k with _ | f
          · rfl
          · rw [twos, if_neg h2]
        omega
      subst hkT
      have hnO : n = O := by
        rw [← hO, ← hv.out, Nat.mul_div_cancel _ (Nat.two_pow_pos k)]
      subst hnO
      have hF := fun wx => from_any n wx (by omega)
      by_cases hs : 0 ≤ E + (k : Int)
      · have hd : (-(E + (k : Int))).toNat = 0 := by omega
        obtain ⟨s, hs1⟩ : ∃ s : Nat, E + (k : Int) = s := ⟨(E + k).toNat, by omega⟩
        have hs2 : s ≤ 1048576 := by omega
        have hst : (E + (k : Int)).toNat = s := by omega
        replace hs1 : Hid _ := hs1
        replace hd : Hid _ := hd
        replace hst : Hid _ := hst
        go_wp2_with fail
        refine (hF _).mono ?_
        rintro e w2 ⟨v2, l2, rfl, g2, m2, o2, e2', k2⟩
        obtain ⟨a2, c2, rfl, q1, q2⟩ := g2.shape
        have hU := up_any a2 c2 s l2 w2 (by rcases l2 with _ | ⟨x, l⟩ <;> simp [val] at e2' ⊢; omega) (by have := len_of o2 (k := 2) (by omega); omega) (Nat.le_trans hs2 (by decide)) q2 m2
        rw [← hs1.out] at hU
        go_wp2_with fail
        refine hU.mono ?_
        rintro e w3 ⟨v3, rfl, n3, k3⟩
        go_wp2_with fail
        go_ret2
        refine ⟨_, _, rfl, ?_, ?_, ?_⟩
        · rw [hst.out, ← e2']
          exact n3.keep ((Keep.refl _).alloc _)
        · rw [hd.out]
          exact one_nv _ _ (Keep.refl _)
        · exact ((hkp.trans k2).trans k3).trans ((Keep.refl _).alloc _)
      · obtain ⟨s, hs1⟩ : ∃ s : Nat, -(E + (k : Int)) = s := ⟨(-(E + k)).toNat, by omega⟩
        have hd : (E + (k : Int)).toNat = 0 := by omega
        have hs2 : s ≤ 1048576 := by omega
        have hw : wrap64 (-(E + (k : Int))) = -(E + (k : Int)) := IntWalk.wrap64_in _ (by omega)
        replace hs1 : Hid _ := hs1
        replace hd : Hid _ := hd
        go_wp2_with fail
        refine (hF _).mono ?_
        rintro e w2 ⟨v2, l2, rfl, g2, m2, o2, e2', k2⟩
        have hU := up_any (some ⟨w2.heap.size, 0, none⟩) 1 s [1] (w2.alloc (Obj.cells #[Value.int IntKind.u32 1] 72)) (by simp) (by simp; omega) (Nat.le_trans hs2 (by decide)) (by
          obtain ⟨a1, c1, l1, z1, z2, z3, z4, z5, z6⟩ := one_nv w2 _ (Keep.refl _)
          have hrow : Row (w2.alloc (.cells #[.int .u32 1] 72)) w2.heap.size [1] := by
            unfold Row; rw [heap_alloc_new]; simp [U]
          exact hrow.rd 0 1 (by simp)) (by intro x hx; simp at hx; omega)
        rw [← hs1.out] at hU
        go_wp2_with fail
        refine hU.mono ?_
        rintro e w3 ⟨v3, rfl, n3, k3⟩
        go_wp2_with fail
        go_ret2
        refine ⟨_, _, rfl, ?_, ?_, ?_⟩
        · rw [hd.out, Nat.pow_zero, Nat.mul_one]
          obtain ⟨a2, c2, rfl, q1, q2⟩ := g2.shape
          exact ⟨a2, c2, l2, rfl, q1, q2.keep (((Keep.refl _).alloc _).trans k3), m2, o2, e2'⟩
        · have h1 : (-(E + (k : Int))).toNat = s := by have := hs1.out; omega
          rw [h1]
          have h2 : val [1] * 2 ^ s = 2 ^ s := by simp [val]
          rw [h2] at n3
          exact n3
        · exact (hkp.trans k2).trans (((Keep.refl _).alloc _).trans k3)
end Go.Proofs.YtgjhbolnnnibkaaGreatDoor.Li
