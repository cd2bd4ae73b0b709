import Derived.Test.YtgjhbolnnnibkaaGreatDoorProg
import Derived.Test.YtgjhbolnnnibkaaGreatDoorGA8
import Derived.WalkKit
import Derived.WalkSpells
import Derived.WalkLawsBesides
import Derived.Laws.CopyOwn
import Derived.Deep.Draws
import Derived.Deep.QuietTactic
import Derived.BigQuiet
import Derived.Laws.MathBits
import Derived.Laws.BytesArg
import Derived.Lib.OthersKept
import Derived.Deep.RegionWith
import Derived.Laws.Externs
import Derived.WalkMore
import Derived.Deep.LoopGhost
import Derived.Deep.RegionHeld3
import Derived.Deep.CutBlock
import Derived.Deep.CutRange
set_option linter.unusedVariables false
set_option linter.unusedSimpArgs false
namespace Go.Proofs.YtgjhbolnnnibkaaGreatDoor.Sc
open Go.RowKit Lb
/-- What Scale answers. -/
def scV (neg : Bool) (x y : Nat) : Int := if x / y ≤ 9223372036854775808 then sgV neg (rup x y) else 0
def scE (neg : Bool) (x y : Nat) : Int := if x / y ≤ 9223372036854775808 then sgE neg (rup x y) else 41
def ngB (v num den : Int) : Bool := ((decide (v < 0)) != (decide (num < 0))) != (decide (den < 0))
set_option maxRecDepth 100000 in
set_option maxHeartbeats 400000 in
theorem Scale_zero (v num : Int) (w : World) : Calls Tryz.prog 35 #[.int .i64 v, .int .i64 num, .int .i64 0] w fun e w' => e = .returned (.tuple #[.int .i64 0, .int .i64 2]) ∧ w' = w := by
  go_enter Tryz.func35, Tryz.ntmps35
  go_wp2
  go_ret2
  exact ⟨rfl, rfl⟩
theorem Div64_any (N D : Nat) (w : World) (hN : N < 18446744073709551616 * D) (hD : D < 18446744073709551616) :
    Calls Tryz.prog 60 #[.int .u64 ((N / 18446744073709551616 : Nat) : Int), .int .u64 ((N % 18446744073709551616 : Nat) : Int), .int .u64 (D : Nat)] w fun e w' => e = .returned (.tuple #[.int .u64 ((N / D : Nat) : Int), .int .u64 ((N % D : Nat) : Int)]) ∧ Keep w w' := by
  have e := Nat.div_add_mod' N 18446744073709551616
  have hl := Nat.mod_lt N (show 0 < 18446744073709551616 by decide)
  have hD0 : 0 < D := by omega
  rcases Nat.eq_zero_or_pos (N / 18446744073709551616) with h | h
  · have h2 := Div64_small (N % 18446744073709551616) D w hl hD hD0
    rw [h] at e ⊢
    have e2 : N % 18446744073709551616 = N := by omega
    rw [e2] at h2 ⊢
    exact h2
  · have h3 : N / 18446744073709551616 < D := by rw [Nat.div_lt_iff_lt_mul (by decide)]; omega
    have h2 := Div64_big (N / 18446744073709551616) (N % 18446744073709551616) D w hl hD h h3
    rw [e] at h2
    exact h2
set_option maxRecDepth 100000 in
set_option maxHeartbeats 1000000 in
theorem Scale_some (v num den : Int) (hv : I64 v) (hn : I64 num) (hd : I64 den) (h0 : den ≠ 0) (w : World) :
    Calls Tryz.prog 35 #[.int .i64 v, .int .i64 num, .int .i64 den] w fun e w' => e = .returned (.tuple #[.int .i64 (scV (ngB v num den) (v.natAbs * num.natAbs) den.natAbs), .int .i64 (scE (ngB v num den) (v.natAbs * num.natAbs) den.natAbs)]) ∧ Keep w w' := by
  have A1 := amount_any v hv
  have A2 := amount_any num hn
  have A3 := amount_any den hd
  have b1 := amt_lt hv
  have b2 := amt_lt hn
  have b3 := amt_lt hd
  have hM := Tryz.bits_Mul64 v.natAbs num.natAbs (by omega) (by omega)
  have hD := fun wx h => Div64_any (v.natAbs * num.natAbs) den.natAbs wx h (by omega)
  have hng : (!((!(decide (v < 0) == decide (num < 0))) == decide (den < 0))) = ngB v num den := rfl
  have hS := fun u hu wx => signed_any (ngB v num den) u hu wx
  have hpos : 0 < den.natAbs := by omega
  have HV : Hid (scV (ngB v num den) (v.natAbs * num.natAbs) den.natAbs = if v.natAbs * num.natAbs / den.natAbs ≤ 9223372036854775808 then sgV (ngB v num den) (rup (v.natAbs * num.natAbs) den.natAbs) else 0) := rfl
  have HE : Hid (scE (ngB v num den) (v.natAbs * num.natAbs) den.natAbs = if v.natAbs * num.natAbs / den.natAbs ≤ 9223372036854775808 then sgE (ngB v num den) (rup (v.natAbs * num.natAbs) den.natAbs) else 41) := rfl
  have HR : Hid (rup (v.natAbs * num.natAbs) den.natAbs = if den.natAbs < 2 * (v.natAbs * num.natAbs % den.natAbs) ∨ 2 * (v.natAbs * num.natAbs % den.natAbs) = den.natAbs ∧ v.natAbs * num.natAbs / den.natAbs % 2 = 1 then v.natAbs * num.natAbs / den.natAbs + 1 else v.natAbs * num.natAbs / den.natAbs) := rfl
  generalize scV (ngB v num den) (v.natAbs * num.natAbs) den.natAbs = V at *
  generalize scE (ngB v num den) (v.natAbs * num.natAbs) den.natAbs = E at *
  generalize ngB v num den = ng at *
  generalize rup (v.natAbs * num.natAbs) den.natAbs = R at *
  have hz : (den == 0) = false := by rw [beq_eq_false_iff_ne]; exact h0
  generalize v.natAbs = a at *
  generalize num.natAbs = b at *
  generalize den.natAbs = D at *
  generalize a * b = N at *
  obtain ⟨H, hH⟩ : ∃ H, N / 18446744073709551616 = H := ⟨_, rfl⟩
  obtain ⟨L, hL⟩ : ∃ L, N % 18446744073709551616 = L := ⟨_, rfl⟩
  rw [hH, hL] at hM hD
  by_cases c1 : D ≤ H
  · have hq : ¬ N / D ≤ 9223372036854775808 := by
      have : 18446744073709551616 ≤ N / D := by
        rw [Nat.le_div_iff_mul_le hpos]
        omega
      omega
    have v1 := HV.out
    have v2 := HE.out
    rw [if_neg hq] at v1 v2
    subst v1 v2
    clear HV HE HR hD hq hH hL
    have d1 : decide ((D : Int) ≤ (H : Int)) = true := decide_eq_true (by omega)
    go_enter Tryz.func35, Tryz.ntmps35
    go_wp2_with (first | (go_at_call_of 33 (Value.int .i64 den); refine (A3 _).mono ?_; rintro e wx ⟨rfl, rfl⟩) | (go_at_call_of 33 (Value.int .i64 v); refine (A1 _).mono ?_; rintro e wx ⟨rfl, rfl⟩) | (go_at_call_of 33 (Value.int .i64 num); refine (A2 _).mono ?_; rintro e wx ⟨rfl, rfl⟩) | (go_at_call 59; refine (hM _).mono ?_; rintro e wx ⟨rfl, rfl⟩))
    go_ret2
    exact ⟨rfl, Keep.refl _⟩
  · have hlt : N < 18446744073709551616 * D := by omega
    have hD' := fun wx => hD wx hlt
    have d1 : decide ((D : Int) ≤ (H : Int)) = false := decide_eq_false (by omega)
    have hr := Nat.mod_lt N hpos
    obtain ⟨q, hq⟩ : ∃ q, N / D = q := ⟨_, rfl⟩
    obtain ⟨r, hrr⟩ : ∃ r, N % D = r := ⟨_, rfl⟩
    have hqb : q < 18446744073709551616 := by rw [← hq, Nat.div_lt_iff_lt_mul hpos]; exact hlt
    rw [hq, hrr] at hD' HR
    rw [hq] at HV HE
    rw [hrr] at hr
    clear hD hlt hq hrr hH hL
    have hlack : IntKind.u64.wrap ((D : Int) - (r : Int)) = (D : Int) - (r : Int) := by rw [IntKind.wrap_u64]; omega
    by_cases c2 : q ≤ 9223372036854775808
    · have v1 := HV.out
      have v2 := HE.out
      rw [if_pos c2] at v1 v2
      have e1 : decide ((q : Int) ≤ 9223372036854775808) = true := decide_eq_true (by omega)
      have hcs : (decide ((D : Int) - (r : Int) < (r : Int)) = true ∧ R = q + 1) ∨ (decide ((D : Int) - (r : Int) < (r : Int)) = false ∧ ((r : Int) == (D : Int) - (r : Int)) = true ∧ ((q : Int) % 2 == 1) = true ∧ R = q + 1) ∨ (decide ((D : Int) - (r : Int) < (r : Int)) = false ∧ ((r : Int) == (D : Int) - (r : Int)) = true ∧ ((q : Int) % 2 == 1) = false ∧ R = q) ∨ (decide ((D : Int) - (r : Int) < (r : Int)) = false ∧ ((r : Int) == (D : Int) - (r : Int)) = false ∧ R = q) := by
        have h9 := HR.out
        rcases Nat.lt_trichotomy (r * 2) D with g1 | g1 | g1
        · rw [if_neg (by omega)] at h9
          exact .inr (.inr (.inr ⟨decide_eq_false (by omega), by rw [beq_eq_false_iff_ne]; omega, h9⟩))
        · rcases Nat.mod_two_eq_zero_or_one q with g2 | g2
          · rw [if_neg (by omega)] at h9
            exact .inr (.inr (.inl ⟨decide_eq_false (by omega), by rw [beq_iff_eq]; omega, by rw [beq_eq_false_iff_ne]; omega, h9⟩))
          · rw [if_pos (by omega)] at h9
            exact .inr (.inl ⟨decide_eq_false (by omega), by rw [beq_iff_eq]; omega, by rw [beq_iff_eq]; omega, h9⟩)
        · rw [if_pos (by omega)] at h9
          exact .inl ⟨decide_eq_true (by omega), h9⟩
      have hw1 : IntKind.u64.wrap ((q : Int) + 1) = ((q + 1 : Nat) : Int) := by rw [IntKind.wrap_u64]; omega
      have hS1 : ∀ wx, Calls Tryz.prog 61 #[.bool ng, .int .u64 ((q : Int) + 1)] wx fun e w' => e = .returned (.tuple #[.int .i64 (sgV ng (q + 1)), .int .i64 (sgE ng (q + 1))]) ∧ w' = wx := fun wx => hS (q + 1) (by omega) wx
      have hS2 := fun wx => hS q (by omega) wx
      subst v1 v2
      clear HR HV HE hS c2 hr hqb hpos
      rcases hcs with ⟨g1, rfl⟩ | ⟨g1, g2, g3, rfl⟩ | ⟨g1, g2, g3, rfl⟩ | ⟨g1, g2, rfl⟩
      · go_enter Tryz.func35, Tryz.ntmps35
        go_wp2_with (first | (go_at_call_of 33 (Value.int .i64 den); refine (A3 _).mono ?_; rintro e wx ⟨rfl, rfl⟩) | (go_at_call_of 33 (Value.int .i64 v); refine (A1 _).mono ?_; rintro e wx ⟨rfl, rfl⟩) | (go_at_call_of 33 (Value.int .i64 num); refine (A2 _).mono ?_; rintro e wx ⟨rfl, rfl⟩) | (go_at_call 59; refine (hM _).mono ?_; rintro e wx ⟨rfl, rfl⟩) | (go_at_call 60; refine (hD' _).mono ?_; rintro e w8 ⟨rfl, k8⟩))
        refine (hS1 _).mono ?_
        rintro e w9 ⟨rfl, rfl⟩
        go_wp2_with fail
        go_ret2
        exact ⟨rfl, k8⟩
      · go_enter Tryz.func35, Tryz.ntmps35
        go_wp2_with (first | (go_at_call_of 33 (Value.int .i64 den); refine (A3 _).mono ?_; rintro e wx ⟨rfl, rfl⟩) | (go_at_call_of 33 (Value.int .i64 v); refine (A1 _).mono ?_; rintro e wx ⟨rfl, rfl⟩) | (go_at_call_of 33 (Value.int .i64 num); refine (A2 _).mono ?_; rintro e wx ⟨rfl, rfl⟩) | (go_at_call 59; refine (hM _).mono ?_; rintro e wx ⟨rfl, rfl⟩) | (go_at_call 60; refine (hD' _).mono ?_; rintro e w8 ⟨rfl, k8⟩))
        refine (hS1 _).mono ?_
        rintro e w9 ⟨rfl, rfl⟩
        go_wp2_with fail
        go_ret2
        exact ⟨rfl, k8⟩
      · go_enter Tryz.func35, Tryz.ntmps35
        go_wp2_with (first | (go_at_call_of 33 (Value.int .i64 den); refine (A3 _).mono ?_; rintro e wx ⟨rfl, rfl⟩) | (go_at_call_of 33 (Value.int .i64 v); refine (A1 _).mono ?_; rintro e wx ⟨rfl, rfl⟩) | (go_at_call_of 33 (Value.int .i64 num); refine (A2 _).mono ?_; rintro e wx ⟨rfl, rfl⟩) | (go_at_call 59; refine (hM _).mono ?_; rintro e wx ⟨rfl, rfl⟩) | (go_at_call 60; refine (hD' _).mono ?_; rintro e w8 ⟨rfl, k8⟩))
        refine (hS2 _).mono ?_
        rintro e w9 ⟨rfl, rfl⟩
        go_wp2_with fail
        go_ret2
        exact ⟨rfl, k8⟩
      · go_enter Tryz.func35, Tryz.ntmps35
        go_wp2_with (first | (go_at_call_of 33 (Value.int .i64 den); refine (A3 _).mono ?_; rintro e wx ⟨rfl, rfl⟩) | (go_at_call_of 33 (Value.int .i64 v); refine (A1 _).mono ?_; rintro e wx ⟨rfl, rfl⟩) | (go_at_call_of 33 (Value.int .i64 num); refine (A2 _).mono ?_; rintro e wx ⟨rfl, rfl⟩) | (go_at_call 59; refine (hM _).mono ?_; rintro e wx ⟨rfl, rfl⟩) | (go_at_call 60; refine (hD' _).mono ?_; rintro e w8 ⟨rfl, k8⟩))
        refine (hS2 _).mono ?_
        rintro e w9 ⟨rfl, rfl⟩
        go_wp2_with fail
        go_ret2
        exact ⟨rfl, k8⟩
    · have v1 := HV.out
      have v2 := HE.out
      rw [if_neg c2] at v1 v2
      have e1 : decide ((q : Int) ≤ 9223372036854775808) = false := decide_eq_false (by omega)
      have hS2 := fun wx => hS q (by omega) wx
      have s1 : sgV ng q = 0 := by unfold sgV; rw [if_neg (by omega), if_neg (by omega)]
      have s2 : sgE ng q = 41 := by unfold sgE; rw [if_neg (by omega), if_neg (by omega)]
      rw [s1, s2] at hS2
      subst v1 v2
      clear HR HV HE hS c2 hr hqb hpos s1 s2
      go_enter Tryz.func35, Tryz.ntmps35
      go_wp2_with (first | (go_at_call_of 33 (Value.int .i64 den); refine (A3 _).mono ?_; rintro e wx ⟨rfl, rfl⟩) | (go_at_call_of 33 (Value.int .i64 v); refine (A1 _).mono ?_; rintro e wx ⟨rfl, rfl⟩) | (go_at_call_of 33 (Value.int .i64 num); refine (A2 _).mono ?_; rintro e wx ⟨rfl, rfl⟩) | (go_at_call 59; refine (hM _).mono ?_; rintro e wx ⟨rfl, rfl⟩) | (go_at_call 60; refine (hD' _).mono ?_; rintro e w8 ⟨rfl, k8⟩))
      refine (hS2 _).mono ?_
      rintro e w9 ⟨rfl, rfl⟩
      go_wp2_with fail
      go_ret2
      exact ⟨rfl, k8⟩
end Go.Proofs.YtgjhbolnnnibkaaGreatDoor.Sc
