import Derived.Test.YtagfkmbljkglpaaB2
import Derived.Deep.Cut
set_option linter.unusedVariables false
set_option linter.unusedSimpArgs false
namespace Go.Proofs.Ytagfkmbljkglpaa
open Go.RowKit Lb Nr
/-- The format of binary64, as the program has it. -/
def fmtV : Value := .agg #[.int .i64 52, .int .i64 2047, .int .i64 (-1074)]
set_option maxRecDepth 100000 in
theorem infinity_any (w : World) : Calls Try.prog 20 #[fmtV] w fun e w' => e = .returned (.int .u64 9218868437227405312) ∧ Keep w w' := by
  unfold fmtV
  go_enter Try.func20, Try.ntmps20
  go_wp2
  go_ret
  exact ⟨rfl, (Keep.refl w).alloc _⟩
set_option maxRecDepth 100000 in
set_option maxHeartbeats 400000 in
theorem withoutBits_any (n d : Nat) (hd : d = 2 ∨ d = 3) (hn : n < 1152921504606846976) (w : World) : Calls Try.prog 25 #[.int .u64 (n : Nat), .int .i64 (d : Nat)] w fun e w' => e = .returned (.int .u64 (rup n (2 ^ d) : Nat)) ∧ Dr w w' := by
  have HR : Hid (rup n (2 ^ d) = if 2 ^ d < 2 * (n % 2 ^ d) ∨ 2 * (n % 2 ^ d) = 2 ^ d ∧ n / 2 ^ d % 2 = 1 then n / 2 ^ d + 1 else n / 2 ^ d) := rfl
  generalize rup n (2 ^ d) = R at *
  rcases hd with rfl | rfl
  · have ha : bits .and .u64 (n : Int) 3 = ((n % 4 : Nat) : Int) := by
      rw [show (3 : Int) = ((3 : Nat) : Int) from rfl, u64_and_nat n 3 (by omega) (by omega), show n &&& 3 = n % 4 from Nat.and_two_pow_sub_one_eq_mod n 2]
    rw [show (2 : Nat) ^ 2 = 4 from rfl] at HR
    obtain ⟨q, hq⟩ : ∃ q, n / 4 = q := ⟨_, rfl⟩
    obtain ⟨r, hr⟩ : ∃ r, n % 4 = r := ⟨_, rfl⟩
    have hqi : (n : Int) / 4 = (q : Int) := by omega
    rw [hr] at ha
    rw [hq, hr] at HR
    have hqb : q < 1152921504606846976 := by omega
    have hrb : r < 4 := by omega
    have hw : IntKind.u64.wrap ((q : Int) + 1) = (q : Int) + 1 := by rw [IntKind.wrap_u64]; omega
    have hcs : (decide ((2 : Int) < (r : Int)) = true ∧ R = q + 1) ∨ (decide ((2 : Int) < (r : Int)) = false ∧ ((r : Int) == 2) = true ∧ ((q : Int) % 2 == 1) = true ∧ R = q + 1) ∨ (decide ((2 : Int) < (r : Int)) = false ∧ ((r : Int) == 2) = true ∧ ((q : Int) % 2 == 1) = false ∧ R = q) ∨ (decide ((2 : Int) < (r : Int)) = false ∧ ((r : Int) == 2) = false ∧ R = q) := by
      have h9 := HR.out
      rcases Nat.lt_trichotomy r 2 with g1 | g1 | g1
      · rw [if_neg (by omega)] at h9
        exact .inr (.inr (.inr ⟨decide_eq_false (by omega), by rw [beq_eq_false_iff_ne]; omega, h9⟩))
      · rcases Nat.mod_two_eq_zero_or_one q with g2 | g2
        · rw [if_neg (by omega)] at h9
          exact .inr (.inr (.inl ⟨decide_eq_false (by omega), by rw [beq_iff_eq]; omega, by rw [beq_eq_false_iff_ne]; omega, h9⟩))
        · rw [if_pos (by omega)] at h9
          exact .inr (.inl ⟨decide_eq_false (by omega), by rw [beq_iff_eq]; omega, by rw [beq_iff_eq]; omega, h9⟩)
      · rw [if_pos (by omega)] at h9
        exact .inl ⟨decide_eq_true (by omega), h9⟩
    clear HR hq hr hn hqb hrb
    rcases hcs with ⟨g1, rfl⟩ | ⟨g1, g2, g3, rfl⟩ | ⟨g1, g2, g3, rfl⟩ | ⟨g1, g2, rfl⟩
    all_goals
      go_enter Try.func25, Try.ntmps25
      go_wp2_with fail
      go_quiet (fail)
      go_wp2_with fail
      go_ret
      exact ⟨ret_int (by first | rfl | omega), (Dr.refl w).drewN _⟩
  · have ha : bits .and .u64 (n : Int) 7 = ((n % 8 : Nat) : Int) := by
      rw [show (7 : Int) = ((7 : Nat) : Int) from rfl, u64_and_nat n 7 (by omega) (by omega), show n &&& 7 = n % 8 from Nat.and_two_pow_sub_one_eq_mod n 3]
    rw [show (2 : Nat) ^ 3 = 8 from rfl] at HR
    obtain ⟨q, hq⟩ : ∃ q, n / 8 = q := ⟨_, rfl⟩
    obtain ⟨r, hr⟩ : ∃ r, n % 8 = r := ⟨_, rfl⟩
    have hqi : (n : Int) / 8 = (q : Int) := by omega
    rw [hr] at ha
    rw [hq, hr] at HR
    have hqb : q < 1152921504606846976 := by omega
    have hrb : r < 8 := by omega
    have hw : IntKind.u64.wrap ((q : Int) + 1) = (q : Int) + 1 := by rw [IntKind.wrap_u64]; omega
    have hcs : (decide ((4 : Int) < (r : Int)) = true ∧ R = q + 1) ∨ (decide ((4 : Int) < (r : Int)) = false ∧ ((r : Int) == 4) = true ∧ ((q : Int) % 2 == 1) = true ∧ R = q + 1) ∨ (decide ((4 : Int) < (r : Int)) = false ∧ ((r : Int) == 4) = true ∧ ((q : Int) % 2 == 1) = false ∧ R = q) ∨ (decide ((4 : Int) < (r : Int)) = false ∧ ((r : Int) == 4) = false ∧ R = q) := by
      have h9 := HR.out
      rcases Nat.lt_trichotomy r 4 with g1 | g1 | g1
      · rw [if_neg (by omega)] at h9
        exact .inr (.inr (.inr ⟨decide_eq_false (by omega), by rw [beq_eq_false_iff_ne]; omega, h9⟩))
      · rcases Nat.mod_two_eq_zero_or_one q with g2 | g2
        · rw [if_neg (by omega)] at h9
          exact .inr (.inr (.inl ⟨decide_eq_false (by omega), by rw [beq_iff_eq]; omega, by rw [beq_eq_false_iff_ne]; omega, h9⟩))
        · rw [if_pos (by omega)] at h9
          exact .inr (.inl ⟨decide_eq_false (by omega), by rw [beq_iff_eq]; omega, by rw [beq_iff_eq]; omega, h9⟩)
      · rw [if_pos (by omega)] at h9
        exact .inl ⟨decide_eq_true (by omega), h9⟩
    clear HR hq hr hn hqb hrb
    rcases hcs with ⟨g1, rfl⟩ | ⟨g1, g2, g3, rfl⟩ | ⟨g1, g2, g3, rfl⟩ | ⟨g1, g2, rfl⟩
    all_goals
      go_enter Try.func25, Try.ntmps25
      go_wp2_with fail
      go_quiet (fail)
      go_wp2_with fail
      go_ret
      exact ⟨ret_int (by first | rfl | omega), (Dr.refl w).drewN _⟩
set_option maxRecDepth 100000 in
set_option maxHeartbeats 400000 in
theorem bits_any (m : Nat) (e : Int) (hm : m ≤ 9007199254740992) (he : -1074 ≤ e ∧ e ≤ 2000) (w : World) : Calls Try.prog 24 #[fmtV, .int .u64 (m : Nat), .int .i64 e] w fun en w' => en = .returned (.int .u64 (wb m e : Nat)) ∧ Keep w w' := by
  have hI := infinity_any
  have HW : Hid (wb m e = min (if 4503599627370496 ≤ m then m + (e + 1074).toNat * 4503599627370496 else m) 9218868437227405312) := rfl
  generalize wb m e = W at *
  unfold fmtV at *
  by_cases h : 4503599627370496 ≤ m
  · have d1 : decide ((4503599627370496 : Int) ≤ (m : Int)) = true := decide_eq_true (by omega)
    have w1 : wrap64 (e + 1074) = e + 1074 := IntWalk.wrap64_in _ (by omega)
    obtain ⟨k, hk⟩ : ∃ k : Nat, e + 1074 = k := ⟨(e + 1074).toNat, by omega⟩
    have w2 : IntKind.u64.wrap (e + 1074) = (k : Int) := by rw [hk, IntKind.wrap_u64]; omega
    have w3 : IntKind.u64.wrap ((k : Int) * 4503599627370496) = (k : Int) * 4503599627370496 := by rw [IntKind.wrap_u64]; omega
    have w4 : IntKind.u64.wrap ((m : Int) + (k : Int) * 4503599627370496) = (m : Int) + (k : Int) * 4503599627370496 := by rw [IntKind.wrap_u64]; omega
    have v := HW.out
    rw [if_pos h, show (e + 1074).toNat = k by omega] at v
    clear HW h
    have HV : Hid _ := v
    clear v hk
    go_enter Try.func24, Try.ntmps24
    go_wp2_with fail
    refine (hI _).mono ?_
    rintro en w2' ⟨rfl, k2⟩
    go_wp2_with fail
    go_ret
    exact ⟨ret_int (by have := HV.out; omega), ((Keep.refl w).alloc _).trans k2⟩
  · have d1 : decide ((4503599627370496 : Int) ≤ (m : Int)) = false := decide_eq_false (by omega)
    have v := HW.out
    rw [if_neg h] at v
    have HV : Hid _ := v
    clear HW v h
    go_enter Try.func24, Try.ntmps24
    go_wp2_with fail
    refine (hI _).mono ?_
    rintro en w2' ⟨rfl, k2⟩
    go_wp2_with fail
    go_ret
    exact ⟨ret_int (by have := HV.out; omega), ((Keep.refl w).alloc _).trans k2⟩
end Go.Proofs.Ytagfkmbljkglpaa
