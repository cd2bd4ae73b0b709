import Derived.Test.YtpdjpjkieafnbaaGreatDoorProg
import Derived.Test.YtpdjpjkieafnbaaGreatDoorLK1
import Derived.Test.YtpdjpjkieafnbaaGreatDoorLE7
import Derived.Test.YtpdjpjkieafnbaaGreatDoorShelf
import Derived.Test.YtpdjpjkieafnbaaGreatDoorNB2
import Derived.WalkKit
import Derived.WalkSpells
import Derived.WalkLawsBesides
import Derived.Laws.CopyOwn
import Derived.Deep.Draws
import Derived.Deep.QuietTactic
import Derived.BigQuiet
import Derived.Laws.MathBits
import Derived.Laws.BytesArg
import Derived.Lib.OthersKept
import Derived.Deep.RegionWith
import Derived.WalkMore
import Derived.Deep.LoopGhost
import Derived.Laws.Externs
import Derived.Deep.Cut
set_option linter.unusedVariables false
set_option linter.unusedSimpArgs false
namespace Go.Proofs.YtpdjpjkieafnbaaGreatDoor.Li
open Go.RowKit Lb Nr
/-- The format of binary64, as the program has it. -/
def fmtV : Value := .agg #[.int .i64 52, .int .i64 2047, .int .i64 (-1074)]
set_option maxRecDepth 100000 in
theorem infinity_any (w : World) : Calls Tryz.prog 87 #[fmtV] w fun e w' => e = .returned (.int .u64 9218868437227405312) ∧ Keep w w' := by
  unfold fmtV
  go_enter Tryz.func87, Tryz.ntmps87
  go_wp2
  go_ret
  exact ⟨rfl, (Keep.refl w).alloc _⟩
set_option maxRecDepth 100000 in
set_option maxHeartbeats 400000 in
theorem withoutBits_any (n d : Nat) (hd : d = 2 ∨ d = 3) (hn : n < 1152921504606846976) (w : World) : Calls Tryz.prog 116 #[.int .u64 (n : Nat), .int .i64 (d : Nat)] w fun e w' => e = .returned (.int .u64 (rup n (2 ^ d) : Nat)) ∧ Dr w w' := by
  have HR : Hid (rup n (2 ^ d) = if 2 ^ d < 2 * (n % 2 ^ d) ∨ 2 * (n % 2 ^ d) = 2 ^ d ∧ n / 2 ^ d % 2 = 1 then n / 2 ^ d + 1 else n / 2 ^ d) := rfl
  generalize rup n (2 ^ d) = R at *
  rcases hd with rfl | rfl
  · have ha : bits .and .u64 (n : Int) 3 = ((n % 4 : Nat) : Int) := by
      rw [show (3 : Int) = ((3 : Nat) : Int) from rfl, u64_and_nat n 3 (by omega) (by omega), show n &&& 3 = n % 4 from Nat.and_two_pow_sub_one_eq_mod n 2]
    rw [show (2 : Nat) ^ 2 = 4 from rfl] at HR
    obtain ⟨q, hq⟩ : ∃ q, n / 4 = q := ⟨_, rfl⟩
    obtain ⟨r, hr⟩ : ∃ r, n % 4 = r := ⟨_, rfl⟩
    have hqi : (n : Int) / 4 = (q : Int) := by omega
    rw [hr] at ha
    rw [hq, hr] at HR
    have hqb : q < 1152921504606846976 := by omega
    have hrb : r < 4 := by omega
    have hw : IntKind.u64.wrap ((q : Int) + 1) = (q : Int) + 1 := by rw [IntKind.wrap_u64]; omega
    have hcs : (decide ((2 : Int) < (r : Int)) = true ∧ R = q + 1) ∨ (decide ((2 : Int) < (r : Int)) = false ∧ ((r : Int) == 2) = true ∧ ((q : Int) % 2 == 1) = true ∧ R = q + 1) ∨ (decide ((2 : Int) < (r : Int)) = false ∧ ((r : Int) == 2) = true ∧ ((q : Int) % 2 == 1) = false ∧ R = q) ∨ (decide ((2 : Int) < (r : Int)) = false ∧ ((r : Int) == 2) = false ∧ R = q) := by
      have h9 := HR.out
      rcases Nat.lt_trichotomy r 2 with g1 | g1 | g1
      · rw [if_neg (by omega)] at h9
        exact .inr (.inr (.inr ⟨decide_eq_false (by omega), by rw [beq_eq_false_iff_ne]; omega, h9⟩))
      · rcases Nat.mod_two_eq_zero_or_one q with g2 | g2
        · rw [if_neg (by omega)] at h9
          exact .inr (.inr (.inl ⟨decide_eq_false (by omega), by rw [beq_iff_eq]; omega, by rw [beq_eq_false_iff_ne]; omega, h9⟩))
        · rw [if_pos (by omega)] at h9
          exact .inr (.inl ⟨decide_eq_false (by omega), by rw [beq_iff_eq]; omega, by rw [beq_iff_eq]; omega, h9⟩)
      · rw [if_pos (by omega)] at h9
        exact .inl ⟨decide_eq_true (by omega), h9⟩
    clear HR hq hr hn hqb hrb
    rcases hcs with ⟨g1, rfl⟩ | ⟨g1, g2, g3, rfl⟩ | ⟨g1, g2, g3, rfl⟩ | ⟨g1, g2, rfl⟩
    all_goals
      go_enter Tryz.func116, Tryz.ntmps116
      go_wp2_with fail
      go_quiet (fail)
      go_wp2_with fail
      go_ret
      exact ⟨ret_int (by first | rfl | omega), (Dr.refl w).drewN _⟩
  · have ha : bits .and .u64 (n : Int) 7 = ((n % 8 : Nat) : Int) := by
      rw [show (7 : Int) = ((7 : Nat) : Int) from rfl, u64_and_nat n 7 (by omega) (by omega), show n &&& 7 = n % 8 from Nat.and_two_pow_sub_one_eq_mod n 3]
    rw [show (2 : Nat) ^ 3 = 8 from rfl] at HR
    obtain ⟨q, hq⟩ : ∃ q, n / 8 = q := ⟨_, rfl⟩
    obtain ⟨r, hr⟩ : ∃ r, n % 8 = r := ⟨_, rfl⟩
    have hqi : (n : Int) / 8 = (q : Int) := by omega
    rw [hr] at ha
    rw [hq, hr] at HR
    have hqb : q < 1152921504606846976 := by omega
    have hrb : r < 8 := by omega
    have hw : IntKind.u64.wrap ((q : Int) + 1) = (q : Int) + 1 := by rw [IntKind.wrap_u64]; omega
    have hcs : (decide ((4 : Int) < (r : Int)) = true ∧ R = q + 1) ∨ (decide ((4 : Int) < (r : Int)) = false ∧ ((r : Int) == 4) = true ∧ ((q : Int) % 2 == 1) = true ∧ R = q + 1) ∨ (decide ((4 : Int) < (r : Int)) = false ∧ ((r : Int) == 4) = true ∧ ((q : Int) % 2 == 1) = false ∧ R = q) ∨ (decide ((4 : Int) < (r : Int)) = false ∧ ((r : Int) == 4) = false ∧ R = q) := by
      have h9 := HR.out
      rcases Nat.lt_trichotomy r 4 with g1 | g1 | g1
      · rw [if_neg (by omega)] at h9
        exact .inr (.inr (.inr ⟨decide_eq_false (by omega), by rw [beq_eq_false_iff_ne]; omega, h9⟩))
      · rcases Nat.mod_two_eq_zero_or_one q with g2 | g2
        · rw [if_neg (by omega)] at h9
          exact .inr (.inr (.inl ⟨decide_eq_false (by omega), by rw [beq_iff_eq]; omega, by rw [beq_eq_false_iff_ne]; omega, h9⟩))
        · rw [if_pos (by omega)] at h9
          exact .inr (.inl ⟨decide_eq_false (by omega), by rw [beq_iff_eq]; omega, by rw [beq_iff_eq]; omega, h9⟩)
      · rw [if_pos (by omega)] at h9
        exact .inl ⟨decide_eq_true (by omega), h9⟩
    clear HR hq hr hn hqb hrb
    rcases hcs with ⟨g1, rfl⟩ | ⟨g1, g2, g3, rfl⟩ | ⟨g1, g2, g3, rfl⟩ | ⟨g1, g2, rfl⟩
    all_goals
      go_enter Tryz.func116, Tryz.ntmps116
      go_wp2_with fail
      go_quiet (fail)
      go_wp2_with fail
      go_ret
      exact ⟨ret_int (by first | rfl | omega), (Dr.refl w).drewN _⟩
set_option maxRecDepth 100000 in
set_option maxHeartbeats 400000 in
theorem bits_any (m : Nat) (e : Int) (hm : m ≤ 9007199254740992) (he : -1074 ≤ e ∧ e ≤ 2000) (w : World) : Calls Tryz.prog 115 #[fmtV, .int .u64 (m : Nat), .int .i64 e] w fun en w' => en = .returned (.int .u64 (wb m e : Nat)) ∧ Keep w w' := by
  have hI := infinity_any
  have HW : Hid (wb m e = min (if 4503599627370496 ≤ m then m + (e + 1074).toNat * 4503599627370496 else m) 9218868437227405312) := rfl
  generalize wb m e = W at *
  unfold fmtV at *
  by_cases h : 4503599627370496 ≤ m
  · have d1 : decide ((4503599627370496 : Int) ≤ (m : Int)) = true := decide_eq_true (by omega)
    have w1 : wrap64 (e + 1074) = e + 1074 := IntWalk.wrap64_in _ (by omega)
    obtain ⟨k, hk⟩ : ∃ k : Nat, e + 1074 = k := ⟨(e + 1074).toNat, by omega⟩
    have w2 : IntKind.u64.wrap (e + 1074) = (k : Int) := by rw [hk, IntKind.wrap_u64]; omega
    have w3 : IntKind.u64.wrap ((k : Int) * 4503599627370496) = (k : Int) * 4503599627370496 := by rw [IntKind.wrap_u64]; omega
    have w4 : IntKind.u64.wrap ((m : Int) + (k : Int) * 4503599627370496) = (m : Int) + (k : Int) * 4503599627370496 := by rw [IntKind.wrap_u64]; omega
    have v := HW.out
    rw [if_pos h, show (e + 1074).toNat = k by omega] at v
    clear HW h
    have HV : Hid _ := v
    clear v hk
    go_enter Tryz.func115, Tryz.ntmps115
    go_wp2_with fail
    refine (hI _).mono ?_
    rintro en w2' ⟨rfl, k2⟩
    go_wp2_with fail
    go_ret
    exact ⟨ret_int (by have := HV.out; omega), ((Keep.refl w).alloc _).trans k2⟩
  · have d1 : decide ((4503599627370496 : Int) ≤ (m : Int)) = false := decide_eq_false (by omega)
    have v := HW.out
    rw [if_neg h] at v
    have HV : Hid _ := v
    clear HW v h
    go_enter Tryz.func115, Tryz.ntmps115
    go_wp2_with fail
    refine (hI _).mono ?_
    rintro en w2' ⟨rfl, k2⟩
    go_wp2_with fail
    go_ret
    exact ⟨ret_int (by have := HV.out; omega), ((Keep.refl w).alloc _).trans k2⟩
end Go.Proofs.YtpdjpjkieafnbaaGreatDoor.Li
set_option linter.unusedVariables false
set_option linter.unusedSimpArgs false
namespace Go.Proofs.YtpdjpjkieafnbaaGreatDoor.Li
open Go.RowKit Lb Nr
set_option maxRecDepth 100000 in
set_option maxHeartbeats 400000 in
theorem Len_same (a : Option Addr) (c : Nat) (l : List Nat) (w : World) (hnc : l.length ≤ c) (hl : l.length ≤ 70368744177664) (hr : Rd w a l) (hm : Lim l) :
    Calls Tryz.prog 70 #[.slice a l.length c] w fun e w' => e = .returned (.int .i64 (lenB l : Nat)) ∧ w' = w := by
  have h1 := nl_le l
  have t1 := trim_any a c l w hnc (by omega) hr
  by_cases h0 : nl l = 0
  · have hb : ((nl l : Int) == 0) = true := by simp; omega
    have he : Hid (lenB l = 0) := by show _ = _; unfold lenB; rw [if_pos h0]
    clear h0
    go_enter Tryz.func70, Tryz.ntmps70
    go_wp2_with fail
    refine t1.mono ?_
    rintro e w' ⟨rfl, rfl⟩
    go_wp2
    go_ret
    exact ⟨ret_int (by rw [he.out]; rfl), rfl⟩
  · obtain ⟨m, hm'⟩ : ∃ m, nl l = m + 1 := ⟨nl l - 1, by omega⟩
    obtain ⟨x, hx⟩ : ∃ x, l.getD m 0 = x := ⟨_, rfl⟩
    have hxl : x < 4294967296 := hx ▸ Lim_getD hm _
    have he : Hid (lenB l = 32 * m + bitLen x) := by show _ = _; unfold lenB; rw [if_neg h0, hm', Nat.add_sub_cancel, hx]
    have hbl := bitLen_le x hxl
    have hb2 : (((m : Int) + 1) == 0) = false := by simp; omega
    obtain ⟨b, o, rfl, hc⟩ := hr m (by omega)
    rw [hx] at hc
    rw [hm'] at t1
    have hml : m ≤ 70368744177664 := by omega
    clear hx h0 hr hm'
    have hL := Tryz.bits_Len32 (x : Nat) w (by omega) (by omega)
    rw [show ((x : Int)).toNat = x from rfl, bitLen_lib x (by omega)] at hL
    go_enter Tryz.func70, Tryz.ntmps70
    go_wp2_with fail
    refine t1.mono ?_
    rintro e w' ⟨rfl, rfl⟩
    go_wp2_with (go_at_call 112; refine hL.mono ?_; rintro e w'' ⟨rfl, rfl⟩)
    go_ret
    exact ⟨ret_int (by rw [he.out]; omega), rfl⟩
theorem lenB_sz {l : List Nat} (hm : Lim l) : lenB l = sz (val l) := by
  by_cases h0 : nl l = 0
  · have e : val l = 0 := by rw [← val_take_nl l, h0]; rfl
    rw [e]
    unfold lenB
    rw [if_pos h0]
    rfl
  · have a := val_lt_len l hm
    have b := val_ge_len l h0
    have c : 0 < lenB l := by
      rcases Nat.eq_zero_or_pos (lenB l) with h | h
      · rw [h] at a b
        simp at a b
        omega
      · exact h
    obtain ⟨s, hs⟩ : ∃ s, lenB l = s + 1 := ⟨lenB l - 1, by omega⟩
    rw [hs] at a b ⊢
    exact (sz_of b a).symm
/-- A natural as a value, of whatever limbs. -/
def Lv (w : World) (v : Value) (n K : Nat) : Prop := ∃ a c l, v = .slice a l.length c ∧ l.length ≤ c ∧ l.length ≤ K ∧ Rd w a l ∧ Lim l ∧ val l = n
theorem Lv.keep {w w' : World} {v : Value} {n K : Nat} (h : Lv w v n K) (k : Keep w w') : Lv w' v n K := by
  obtain ⟨a, c, l, e, h1, h2, h3, h4⟩ := h
  exact ⟨a, c, l, e, h1, h2, h3.keep k, h4⟩
theorem Lv.lt {w : World} {v : Value} {n K : Nat} (h : Lv w v n K) : n < 4294967296 ^ K := by
  obtain ⟨a, c, l, e, h1, h2, h3, h4, h5⟩ := h
  rw [← h5]
  exact Nat.lt_of_lt_of_le (val_lt h4) (Nat.pow_le_pow_right (by omega) h2)
theorem NatR.lv {B : Nat} {w : World} {v : Value} {n K : Nat} (h : NatR B w v n) (hn : n < 4294967296 ^ K) : Lv w v n K := by
  obtain ⟨a, c, l, rfl, q1, q2, q3, q4, q5, -⟩ := h.shape
  exact ⟨a, c, l, rfl, q1, len_of q4 (by rw [q5]; exact hn), q2, q3, q5⟩
theorem Len_lv (v : Value) (n K : Nat) (w : World) (h : Lv w v n K) (hK : K ≤ 35184372088000) :
    Calls Tryz.prog 70 #[v] w fun e w' => e = .returned (.int .i64 (sz n : Nat)) ∧ w' = w := by
  obtain ⟨a, c, l, rfl, h1, h2, h3, h4, h5⟩ := h
  have := Len_same a c l w h1 (by omega) h3 h4
  rw [lenB_sz h4, h5] at this
  exact this
theorem pow_small (k m : Nat) (h : k ≤ 32 * m) : 2 ^ k ≤ 4294967296 ^ m := by
  rw [word_pow]
  exact Nat.pow_le_pow_right (by omega) h
set_option maxRecDepth 100000 in
set_option maxHeartbeats 400000 in
theorem scaled_lv (v1 v2 : Value) (n d K : Nat) (e : Int) (w : World) (h1 : Lv w v1 n K) (h2 : Lv w v2 d K) (hK : K ≤ 35184372088000) (he : -2000 ≤ e ∧ e ≤ 2000) :
    Calls Tryz.prog 68 #[v1, v2, .int .i64 e] w fun en w' => ∃ a1 a2, en = .returned (.tuple #[a1, a2]) ∧ Lv w' a1 (n * 2 ^ e.toNat) (K + 100) ∧ Lv w' a2 (d * 2 ^ (-e).toNat) (K + 100) ∧ Keep w w' := by
  have hb : ∀ x k : Nat, x < 4294967296 ^ K → k ≤ 2000 → x * 2 ^ k < 4294967296 ^ (K + 100) := by
    intro x k hx hk
    rw [Nat.pow_add]
    exact Nat.mul_lt_mul_of_lt_of_le hx (pow_small k 100 (by omega)) (Nat.pow_pos (by omega))
  have g1 := h1.lt
  have g2 := h2.lt
  replace g1 : Hid _ := g1
  replace g2 : Hid _ := g2
  replace hb : Hid _ := hb
  obtain ⟨a1, c1, l1, rfl, hc1, hk1, r1, m1, e1⟩ := h1
  obtain ⟨a2, c2, l2, rfl, hc2, hk2, r2, m2, e2⟩ := h2
  by_cases h0 : e < 0
  · obtain ⟨k, hk⟩ : ∃ k : Nat, -e = (k : Int) := ⟨(-e).toNat, by omega⟩
    have hU := Up_any a2 c2 k l2 w hc2 (by omega) (by omega) r2 m2
    rw [e2] at hU
    have f1 : e.toNat = 0 := by omega
    have f2 : (-e).toNat = k := by omega
    have hkb : k ≤ 2000 := by omega
    rw [f1, f2]
    have hk' : IntKind.i64.wrap (-e) = (k : Int) := by rw [IntWalk.i64_left, hk]; exact IntWalk.wrap64_in _ (by omega)
    clear f1 f2 e2
    go_enter Tryz.func68, Tryz.ntmps68
    go_wp2_with (go_at_call 106; refine hU.mono ?_; rintro e' w1 ⟨v, rfl, hv, k1⟩)
    go_ret2
    exact ⟨_, _, rfl, ⟨a1, c1, l1, rfl, hc1, by omega, r1.keep k1, m1, by rw [e1]; simp⟩, hv.lv (hb.out _ _ g2.out hkb), k1⟩
  · obtain ⟨k, hk⟩ := Int.eq_ofNat_of_zero_le (show 0 ≤ e by omega)
    subst hk
    have hU := Up_any a1 c1 k l1 w hc1 (by omega) (by omega) r1 m1
    rw [e1] at hU
    have f1 : ((k : Nat) : Int).toNat = k := by omega
    have f2 : (-((k : Nat) : Int)).toNat = 0 := by omega
    have hkb : k ≤ 2000 := by omega
    rw [f1, f2]
    clear f1 f2 e1
    go_enter Tryz.func68, Tryz.ntmps68
    go_wp2_with (go_at_call 106; refine hU.mono ?_; rintro e' w1 ⟨v, rfl, hv, k1⟩)
    go_ret2
    exact ⟨_, _, rfl, hv.lv (hb.out _ _ g1.out hkb), ⟨a2, c2, l2, rfl, hc2, by omega, r2.keep k1, m2, by rw [e2]; simp⟩, k1⟩
theorem DivMod_lv (v1 v2 : Value) (x y K : Nat) (w : World) (h1 : Lv w v1 x K) (h2 : Lv w v2 y K) (hK : K ≤ 35184372088000) (hy : 0 < y) :
    Calls Tryz.prog 113 #[v1, v2] w fun e w' => ∃ vq vr, e = .returned (.tuple #[vq, vr, .int .i64 0]) ∧ Lv w' vq (x / y) K ∧ Lv w' vr (x % y) K ∧ Keep w w' := by
  have g1 := h1.lt
  have g2 := h2.lt
  obtain ⟨a1, c1, l1, rfl, hc1, hk1, r1, m1, e1⟩ := h1
  obtain ⟨a2, c2, l2, rfl, hc2, hk2, r2, m2, e2⟩ := h2
  have := DivMod_any a1 a2 c1 c2 l1 l2 w hc1 hc2 (by omega) (by omega) r1 r2 m1 m2 (by omega)
  rw [e1, e2] at this
  refine this.mono ?_
  rintro e w' ⟨vq, vr, rfl, n1, n2, kk⟩
  exact ⟨_, _, rfl, n1.lv (Nat.lt_of_le_of_lt (Nat.div_le_self _ _) g1), n2.lv (Nat.lt_of_le_of_lt (Nat.mod_le _ _) g1), kk⟩
theorem Small_lv (v : Value) (n K : Nat) (w : World) (h : Lv w v n K) (hK : K ≤ 35184372088000) (hn : n < 18446744073709551616) :
    Calls Tryz.prog 114 #[v] w fun e w' => ∃ b, e = .returned (.tuple #[.int .u64 (n : Nat), .bool b]) ∧ w' = w := by
  obtain ⟨a, c, l, rfl, h1, h2, h3, h4, h5⟩ := h
  have := Small_any a c l w h1 (by omega) h3 h4
  have hs : nl l ≤ 2 := by
    have e : (l.take (nl l)).length = nl l := by rw [List.length_take]; have := nl_le l; omega
    rw [← e]
    exact len_of (Nrm_take l) (by rw [val_take_nl, h5]; exact hn)
  have hv : smallV l = n := by unfold smallV; rw [if_pos hs, h5]
  rw [hv] at this
  refine this.mono ?_
  rintro e w' ⟨rfl, rfl⟩
  exact ⟨_, rfl, rfl⟩
end Go.Proofs.YtpdjpjkieafnbaaGreatDoor.Li
set_option linter.unusedVariables false
set_option linter.unusedSimpArgs false
namespace Go.Proofs.YtpdjpjkieafnbaaGreatDoor.Li
open Lb Nr
theorem fl_lt {N D c : Nat} {e : Int} (hD : 0 < D) (h : (sz N : Int) - (sz D : Int) - e + 1 ≤ c) : fl N D e < 2 ^ c := by
  unfold fl
  rw [Nat.div_lt_iff_lt_mul (sB_pos hD e)]
  unfold sA sB
  have a := sz_lt N
  obtain ⟨b, b0⟩ := sz_ge hD
  have h1 : N * 2 ^ (-e).toNat < 2 ^ sz N * 2 ^ (-e).toNat := Nat.mul_lt_mul_of_pos_right a (Nat.two_pow_pos _)
  have h2 : 2 ^ (sz D - 1) * 2 ^ e.toNat ≤ D * 2 ^ e.toNat := Nat.mul_le_mul_right _ b
  have h3 : 2 ^ sz N * 2 ^ (-e).toNat ≤ 2 ^ c * (2 ^ (sz D - 1) * 2 ^ e.toNat) := by
    rw [← Nat.pow_add, ← Nat.pow_add, ← Nat.pow_add]
    exact Nat.pow_le_pow_right (by omega) (by omega)
  have h4 := Nat.mul_le_mul_left (2 ^ c) h2
  omega
theorem fl_ge {N D c : Nat} {e : Int} (hN : 0 < N) (hD : 0 < D) (h : (c : Int) ≤ (sz N : Int) - (sz D : Int) - e - 1) : 2 ^ c ≤ fl N D e := by
  unfold fl
  rw [Nat.le_div_iff_mul_le (sB_pos hD e)]
  unfold sA sB
  have a := sz_lt D
  obtain ⟨b, b0⟩ := sz_ge hN
  have h1 : D * 2 ^ e.toNat ≤ 2 ^ sz D * 2 ^ e.toNat := Nat.mul_le_mul_right _ (Nat.le_of_lt a)
  have h2 : 2 ^ (sz N - 1) * 2 ^ (-e).toNat ≤ N * 2 ^ (-e).toNat := Nat.mul_le_mul_right _ b
  have h3 : 2 ^ c * (2 ^ sz D * 2 ^ e.toNat) ≤ 2 ^ (sz N - 1) * 2 ^ (-e).toNat := by
    rw [← Nat.pow_add, ← Nat.pow_add, ← Nat.pow_add]
    exact Nat.pow_le_pow_right (by omega) (by omega)
  have h4 := Nat.mul_le_mul_left (2 ^ c) h1
  omega
theorem p53 : (2 : Nat) ^ 53 = 9007199254740992 := rfl
theorem far_high {N D : Nat} (hN : 0 < N) (hD : 0 < D) (h : 1100 < (sz N : Int) - (sz D : Int)) {E : Int} (hE : IsE N D E) : wb (rup (sA N E) (sB D E)) E = 9218868437227405312 := by
  have hg : 971 < E := by
    refine Int.not_le.1 fun hle => ?_
    have := fl_ge (c := 53) (e := E) hN hD (by omega)
    rw [p53] at this
    have := hE.2.1
    omega
  obtain ⟨a, b⟩ := small_E hD hE
  have c : ¬ rup (sA N E) (sB D E) < 4503599627370496 := fun hh => by have := b hh; omega
  unfold wb
  rw [if_pos (by omega)]
  omega
theorem far_low {N D : Nat} (hD : 0 < D) (h : (sz N : Int) - (sz D : Int) < -1100) {E : Int} (hE : IsE N D E) : wb (rup (sA N E) (sB D E)) E = 0 := by
  have hg : E = -1074 := by
    rcases hE.2.2 with g | g
    · exact g
    · exfalso
      have := fl_lt (N := N) (c := 53) (e := E - 1) hD (by have := hE.1; omega)
      rw [p53] at this
      omega
  subst hg
  have h0 := fl_lt (N := N) (c := 0) (e := -1074 - 1) hD (by omega)
  have hr : rup (sA N (-1074)) (sB D (-1074)) = 0 := by
    have e := rup_ratio (sB_pos hD (-1074)) (sB_pos hD (-1074)) (rfl : sA N (-1074) * sB D (-1074) = sA N (-1074) * sB D (-1074))
    have h1 : 2 * sA N (-1074) < sB D (-1074) := by
      have h2 : fl N D (-1074 - 1) = 0 := by omega
      unfold fl at h2
      rw [Nat.div_eq_zero_iff] at h2
      rcases h2 with h2 | h2
      · have := sB_pos hD (-1074 - 1); omega
      · unfold sA sB at h2 ⊢
        obtain ⟨k, hk⟩ : ∃ k : Nat, (-(-1074 : Int)).toNat = k := ⟨_, rfl⟩
        have hk1 : (-(-1074 - 1 : Int)).toNat = k + 1 := by omega
        rw [hk1, show ((-1074 - 1 : Int)).toNat = 0 by decide, Nat.pow_succ] at h2
        rw [hk, show ((-1074 : Int)).toNat = 0 by decide]
        clear hk hk1
        generalize (2 : Nat) ^ k = p at *
        rw [← Nat.mul_assoc] at h2
        omega
    unfold rup
    have h3 : sA N (-1074) / sB D (-1074) = 0 := Nat.div_eq_of_lt (by omega)
    have h4 : sA N (-1074) % sB D (-1074) = sA N (-1074) := Nat.mod_eq_of_lt (by omega)
    rw [h3, h4, if_neg (by omega)]
  rw [hr]
  rfl
/-- The program's own exponent and mantissa. -/
theorem main_E {N D : Nat} (hN : 0 < N) (hD : 0 < D) {e1 : Int} (he : e1 = max ((sz N : Int) - (sz D : Int) - 53) (-1074) - 2) :
    fl N D e1 < 72057594037927936 ∧ ∃ d : Nat, (d = 2 ∨ d = 3) ∧ max ((sz (fl N D e1) : Int) - 53) 2 = (d : Int) ∧ IsE N D (e1 + d) ∧
      rup (sA N (e1 + d)) (sB D (e1 + d)) = rup (if sA N e1 % sB D e1 = 0 then fl N D e1 else fl N D e1 ||| 1) (2 ^ d) := by
  have hround : ∀ d : Nat, (d = 2 ∨ d = 3) → rup (sA N (e1 + d)) (sB D (e1 + d)) = rup (if sA N e1 % sB D e1 = 0 then fl N D e1 else fl N D e1 ||| 1) (2 ^ d) := by
    intro d hd
    obtain ⟨p, hp, hp2⟩ : ∃ p, 0 < p ∧ 2 ^ d = 4 * p := by
      rcases hd with rfl | rfl
      · exact ⟨1, by omega, rfl⟩
      · exact ⟨2, by omega, rfl⟩
    rw [rup_add hD, hp2]
    have h := sticky (q := fl N D e1) (b := sB D e1) (r := sA N e1 % sB D e1) hp (Nat.mod_lt _ (sB_pos hD e1))
    have e : fl N D e1 * sB D e1 + sA N e1 % sB D e1 = sA N e1 := Nat.div_add_mod' _ _
    rw [e] at h
    exact h.symm
  have hf : ∀ d : Nat, fl N D (e1 + d) = fl N D e1 / 2 ^ d := fun d => fl_add hD e1 d
  have p56 : (2 : Nat) ^ 56 = 72057594037927936 := rfl
  have p55 : (2 : Nat) ^ 55 = 36028797018963968 := rfl
  have p54 : (2 : Nat) ^ 54 = 18014398509481984 := rfl
  by_cases hc : -1074 ≤ (sz N : Int) - (sz D : Int) - 53
  · have he2 : e1 = (sz N : Int) - (sz D : Int) - 55 := by omega
    have g1 := fl_ge (c := 54) (e := e1) hN hD (by omega)
    have g2 := fl_lt (N := N) (c := 56) (e := e1) hD (by omega)
    refine ⟨by omega, ?_⟩
    by_cases h5 : fl N D e1 < 36028797018963968
    · have s1 : sz (fl N D e1) = 55 := sz_of (s := 54) g1 (by omega)
      refine ⟨2, .inl rfl, by rw [s1]; rfl, ⟨by omega, ?_, .inr ?_⟩, hround 2 (.inl rfl)⟩
      · rw [hf]; omega
      · rw [show e1 + (2 : Nat) - 1 = e1 + (1 : Nat) by omega, hf]; omega
    · have s1 : sz (fl N D e1) = 56 := sz_of (s := 55) (by omega) g2
      refine ⟨3, .inr rfl, by rw [s1]; rfl, ⟨by omega, ?_, .inr ?_⟩, hround 3 (.inr rfl)⟩
      · rw [hf]; omega
      · rw [show e1 + (3 : Nat) - 1 = e1 + (2 : Nat) by omega, hf]; omega
  · have he2 : e1 = -1076 := by omega
    have g2 := fl_lt (N := N) (c := 55) (e := e1) hD (by omega)
    have s1 : sz (fl N D e1) ≤ 55 := sz_le g2
    refine ⟨by omega, 2, .inl rfl, by omega, ⟨by omega, ?_, .inl (by omega)⟩, hround 2 (.inl rfl)⟩
    rw [hf]; omega
end Go.Proofs.YtpdjpjkieafnbaaGreatDoor.Li
