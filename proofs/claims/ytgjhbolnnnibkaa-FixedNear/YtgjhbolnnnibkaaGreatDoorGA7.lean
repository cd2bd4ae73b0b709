import Derived.Test.YtgjhbolnnnibkaaGreatDoorProg
import Derived.Test.YtgjhbolnnnibkaaGreatDoorShelf
import Derived.Test.YtgjhbolnnnibkaaGreatDoorGLLD3
import Derived.Test.YtgjhbolnnnibkaaGreatDoorLC6
import Derived.WalkKit
import Derived.WalkSpells
import Derived.WalkLawsBesides
import Derived.Laws.CopyOwn
import Derived.Deep.Draws
import Derived.Deep.QuietTactic
import Derived.BigQuiet
import Derived.Laws.MathBits
import Derived.Laws.BytesArg
import Derived.Lib.OthersKept
import Derived.Deep.RegionWith
import Derived.Laws.Externs
import Derived.WalkMore
import Derived.Deep.LoopGhost
import Derived.Deep.RegionHeld3
import Derived.Deep.CutBlock
import Derived.Deep.CutRange
set_option linter.unusedVariables false
set_option linter.unusedSimpArgs false
namespace Go.Proofs.YtgjhbolnnnibkaaGreatDoor.Sc
open Go.RowKit Lb
theorem and32 (n : Nat) (hn : n < 18446744073709551616) : bits .and .u64 (n : Int) 4294967295 = ((n % 4294967296 : Nat) : Int) := by
  rw [show (4294967295 : Int) = ((4294967295 : Nat) : Int) from rfl, u64_and_nat n 4294967295 hn (by omega), show n &&& 4294967295 = n % 4294967296 from Nat.and_two_pow_sub_one_eq_mod n 32]
set_option maxRecDepth 100000 in
set_option maxHeartbeats 400000 in
theorem Div64_small (lo y : Nat) (w : World) (hlo : lo < 18446744073709551616) (hy : y < 18446744073709551616) (hy0 : 0 < y) :
    Calls Tryz.prog 60 #[.int .u64 0, .int .u64 (lo : Nat), .int .u64 (y : Nat)] w fun e w' => e = .returned (.tuple #[.int .u64 ((lo / y : Nat) : Int), .int .u64 ((lo % y : Nat) : Int)]) ∧ Keep w w' := by
  have h1 : ((y : Int) == 0) = false := by rw [beq_eq_false_iff_ne]; omega
  have h2 : decide ((y : Int) ≤ 0) = false := decide_eq_false (by omega)
  have h3 : (y : Int) ≠ 0 := by omega
  have h4 : IntKind.u64.wrap ((lo : Int) / (y : Int)) = (lo : Int) / (y : Int) := by
    have e : (lo : Int) / (y : Int) = ((lo / y : Nat) : Int) := by simp
    have := Nat.div_le_self lo y
    rw [IntKind.wrap_u64, e]
    generalize lo / y = d at *
    omega
  go_enter Tryz.func60, Tryz.ntmps60
  go_wp2_with fail
  go_quiet (fail)
  go_wp2_with fail
  go_ret2
  exact ⟨by simp, (Keep.refl w).drewN _⟩
theorem lead (y : Nat) (hy : y < 18446744073709551616) (hy0 : 0 < y) : ∃ s : Nat, s < 64 ∧ (64 - (Lib.bitLen y : Int)) = (s : Int) ∧ 9223372036854775808 ≤ y * 2 ^ s ∧ y * 2 ^ s < 18446744073709551616 := by
  rw [bitLen_lib y hy]
  obtain ⟨a, b⟩ := bitLen_spec y
  have b := b (by omega)
  have c : bitLen y ≤ 64 := by
    have := (Nat.pow_lt_pow_iff_right (a := 2) (n := bitLen y - 1) (m := 64) (by omega)).1 (Nat.lt_of_le_of_lt b hy)
    omega
  have d : 0 < bitLen y := by
    rcases Nat.eq_zero_or_pos (bitLen y) with h | h
    · rw [h] at a; simp at a; omega
    · exact h
  refine ⟨64 - bitLen y, by omega, by omega, ?_, ?_⟩
  · have := Nat.mul_le_mul_right (2 ^ (64 - bitLen y)) b
    rw [← Nat.pow_add, show bitLen y - 1 + (64 - bitLen y) = 63 by omega] at this
    exact this
  · have := Nat.mul_lt_mul_of_pos_right a (Nat.two_pow_pos (64 - bitLen y))
    rw [← Nat.pow_add, show bitLen y + (64 - bitLen y) = 64 by omega] at this
    exact this
set_option maxRecDepth 100000 in
set_option maxHeartbeats 1000000 in
theorem Div64_big (hi lo y : Nat) (w : World) (hlo : lo < 18446744073709551616) (hy : y < 18446744073709551616) (hi0 : 0 < hi) (hiy : hi < y) :
    Calls Tryz.prog 60 #[.int .u64 (hi : Nat), .int .u64 (lo : Nat), .int .u64 (y : Nat)] w fun e w' => e = .returned (.tuple #[.int .u64 (((hi * 18446744073709551616 + lo) / y : Nat) : Int), .int .u64 (((hi * 18446744073709551616 + lo) % y : Nat) : Int)]) ∧ Keep w w' := by
  have hL := Tryz.bits_LeadingZeros64 (y : Nat) w (by omega) (by omega)
  rw [show ((y : Int)).toNat = y from rfl] at hL
  obtain ⟨s, hs, hse, hY1, hY2⟩ := lead y hy (by omega)
  rw [hse] at hL
  have h1 : ((y : Int) == 0) = false := by rw [beq_eq_false_iff_ne]; omega
  have h2 : decide ((y : Int) ≤ (hi : Int)) = false := decide_eq_false (by omega)
  have h3 : ((hi : Int) == 0) = false := by rw [beq_eq_false_iff_ne]; omega
  have hs2 : (s : Int) < 64 := by omega
  -- the divisor moved up
  obtain ⟨Y, hYe⟩ : ∃ Y, y * 2 ^ s = Y := ⟨_, rfl⟩
  rw [hYe] at hY1 hY2
  have m1 : IntKind.u64.wrap ((y : Int) * 2 ^ s) = (Y : Int) := by
    have e : (y : Int) * 2 ^ s = ((y * 2 ^ s : Nat) : Int) := by simp
    rw [e, hYe, IntKind.wrap_u64]
    omega
  obtain ⟨uh, huh⟩ : ∃ uh, hi * 2 ^ s + lo / 2 ^ (64 - s) = uh := ⟨_, rfl⟩
  obtain ⟨ul, hul⟩ : ∃ ul, lo * 2 ^ s % 18446744073709551616 = ul := ⟨_, rfl⟩
  have hlow : lo / 2 ^ (64 - s) < 2 ^ s := by
    rw [Nat.div_lt_iff_lt_mul (Nat.two_pow_pos _), ← Nat.pow_add, show s + (64 - s) = 64 by omega]
    exact hlo
  have hhi : hi * 2 ^ s + 2 ^ s ≤ Y := by
    rw [← hYe]
    have := Nat.mul_le_mul_right (2 ^ s) (show hi + 1 ≤ y from hiy)
    rw [Nat.add_mul, Nat.one_mul] at this
    exact this
  have m2 : bits .or .u64 (IntKind.u64.wrap ((hi : Int) * 2 ^ s)) ((lo : Int) / 2 ^ (64 - s)) = (uh : Int) := by
    have e1 : (hi : Int) * 2 ^ s = ((hi * 2 ^ s : Nat) : Int) := by simp
    have e2 : (lo : Int) / 2 ^ (64 - s) = ((lo / 2 ^ (64 - s) : Nat) : Int) := by simp
    have e3 : hi * 2 ^ s < 18446744073709551616 := by have := Nat.two_pow_pos s; omega
    have e4 : lo / 2 ^ (64 - s) < 18446744073709551616 := Nat.lt_of_le_of_lt (Nat.div_le_self _ _) hlo
    have e5 : ((hi * 2 ^ s : Nat) : Int) % 18446744073709551616 = ((hi * 2 ^ s : Nat) : Int) := by
      generalize hi * 2 ^ s = H at *
      omega
    rw [e1, e2, IntKind.wrap_u64, e5, u64_or_nat _ _ e3 e4, Nat.mul_comm hi, ← Nat.two_pow_add_eq_or_of_lt hlow, Nat.mul_comm _ hi, huh]
  have m3 : IntKind.u64.wrap ((lo : Int) * 2 ^ s) = (ul : Int) := by
    have e1 : (lo : Int) * 2 ^ s = ((lo * 2 ^ s : Nat) : Int) := by simp
    rw [e1, IntKind.wrap_u64, ← hul]
    omega
  have hU : Hid ((hi * 18446744073709551616 + lo) * 2 ^ s = uh * 18446744073709551616 + ul) := by
    show _ = _
    have := Dv.lowup (lo := lo) hs
    rw [Nat.add_mul, this, hul, ← huh]
    grind
  have hmv := Dv.moved (U := hi * 18446744073709551616 + lo) (y := y) (s := s)
  rw [hU.out, hYe] at hmv
  have huhY : uh < Y := by omega
  have hull : ul < 18446744073709551616 := by rw [← hul]; exact Nat.mod_lt _ (by decide)
  replace hmv : Hid _ := hmv
  replace hYe : Hid _ := hYe
  clear huh hul hlow hhi hU
  have hY2' := hY2
  have hYd : Y = Y / 4294967296 * 4294967296 + Y % 4294967296 := by omega
  obtain ⟨y1, hy1⟩ : ∃ y1, Y / 4294967296 = y1 := ⟨_, rfl⟩
  obtain ⟨y0, hy0⟩ : ∃ y0, Y % 4294967296 = y0 := ⟨_, rfl⟩
  have n1 : (Y : Int) / 4294967296 = (y1 : Int) := by omega
  have n2 : bits .and .u64 (Y : Int) 4294967295 = (y0 : Int) := by rw [and32 Y hY2', hy0]
  obtain ⟨ua, hua⟩ : ∃ ua, ul / 4294967296 = ua := ⟨_, rfl⟩
  obtain ⟨ub, hub⟩ : ∃ ub, ul % 4294967296 = ub := ⟨_, rfl⟩
  have n3 : (ul : Int) / 4294967296 = (ua : Int) := by omega
  have n4 : bits .and .u64 (ul : Int) 4294967295 = (ub : Int) := by rw [and32 ul hull, hub]
  have hy1b : 2147483648 ≤ y1 ∧ y1 < 4294967296 := by omega
  have hy0b : y0 < 4294967296 := by omega
  have huab : ua < 4294967296 := by omega
  have hubb : ub < 4294967296 := by omega
  have HU : Hid (ul = ua * 4294967296 + ub) := by show _ = _; omega
  have HY : Hid (Y = y1 * 4294967296 + y0) := by show _ = _; rw [← hy1, ← hy0]; exact hYd
  clear hYd hy1 hy0 hua hub
  have hn0 : (y1 : Int) ≠ 0 := by omega
  have huhb : uh < 18446744073709551616 := by omega
  obtain ⟨f1, f2, f3⟩ := Dv.first (u1 := ua) hy1b.1 hy0b (by rw [← HY.out]; exact huhY) huab
  obtain ⟨Q, hQ⟩ : ∃ Q, uh / y1 = Q := ⟨_, rfl⟩
  obtain ⟨R, hR⟩ : ∃ R, uh % y1 = R := ⟨_, rfl⟩
  have hRb : R < 4294967296 := by
    have := Nat.mod_lt uh (show 0 < y1 by omega)
    omega
  have p1 : IntKind.u64.wrap ((uh : Int) / (y1 : Int)) = (Q : Int) := by
    have e : (uh : Int) / (y1 : Int) = ((uh / y1 : Nat) : Int) := by simp
    rw [e, hQ, IntKind.wrap_u64]
    omega
  rw [hQ] at f1 f2 f3
  rw [hR] at f1
  have p2 : IntKind.u64.wrap ((uh : Int) - IntKind.u64.wrap ((Q : Int) * (y1 : Int))) = (R : Int) := by
    rw [IntKind.wrap_u64, IntKind.wrap_u64, ← Int.natCast_mul]
    generalize Q * y1 = P at *
    omega
  replace f3 : Hid _ := f3
  replace f1 : Hid _ := f1
  clear hQ hR
  go_enter Tryz.func60, Tryz.ntmps60
  go_wp2_with fail
  refine hL.mono ?_
  rintro e w1 ⟨rfl, rfl⟩
  go_upto_block 0 with fail
  go_cut [15, 16] from 67 to 85 (fun s15 s16 wx => w1 = wx ∧ ∃ qn : Nat, s15 = .int .u64 qn ∧ qn < 4294967296 ∧ Hid (qn = (uh * 4294967296 + ua) / Y))
  case first =>
    go_wp2_with fail
    go_loopg [15, 16] Q (fun gg s15 s16 wx => w1 = wx ∧ ∃ (qn rn : Nat), qn = gg ∧ s15 = .int .u64 qn ∧ s16 = .int .u64 rn ∧ qn ≤ 4294967297 ∧ rn < 4294967296 ∧ Hid (qn * y1 + rn = uh) ∧ Hid (uh * 4294967296 + ua < (qn + 1) * (y1 * 4294967296 + y0)))
    case atStart => exact ⟨rfl, Q, R, rfl, rfl, rfl, f2, hRb, f1, f3⟩
    case round =>
      obtain ⟨rfl, q, r, rfl, rfl, rfl, hq, hr, hqr, hul'⟩ := hrel
      have hfin : ∀ q' : Nat, q' * (y1 * 4294967296 + y0) ≤ uh * 4294967296 + ua → uh * 4294967296 + ua < (q' + 1) * (y1 * 4294967296 + y0) → q' < 4294967296 ∧ Hid (q' = (uh * 4294967296 + ua) / Y) := by
        intro q' g1 g2
        have g3 := (Dv.quo g1 g2).1
        rw [HY.out]
        refine ⟨?_, g3⟩
        rw [g3, Nat.div_lt_iff_lt_mul (by omega)]
        have := huhY
        rw [HY.out] at this
        omega
      replace hfin : Hid _ := hfin
      by_cases ht : 4294967296 ≤ q ∨ 4294967296 * r + ua < q * y0
      · have hmore := Dv.more hqr.out (by rw [← HY.out]; exact huhY) huab ht
        obtain ⟨s1, s2, s3, s4⟩ := Dv.step hq hqr.out hmore
        obtain ⟨p, hp⟩ : ∃ p, q - 1 = p := ⟨_, rfl⟩
        rw [hp] at s2 s3 s4
        have S2 : Hid (p * y1 + (r + y1) = uh) := s2
        have S3 : Hid (p ≤ 4294967296 ∧ p < q) := ⟨s3, by omega⟩
        have S4 : Hid (uh * 4294967296 + ua < (p + 1) * (y1 * 4294967296 + y0)) := s4
        obtain ⟨r', hr'⟩ : ∃ r', r + y1 = r' := ⟨_, rfl⟩
        have hbrk : Hid (4294967296 ≤ r' → p < 4294967296 ∧ Hid (p = (uh * 4294967296 + ua) / Y)) := fun hb =>
          hfin.out p (Dv.out1 s2 (Dv.out2 s3 hy0b (by omega))) s4
        have w1' : IntKind.u64.wrap ((q : Int) - 1) = (p : Int) := by rw [IntKind.wrap_u64]; omega
        have w2' : IntKind.u64.wrap ((r : Int) + (y1 : Int)) = (r' : Int) := by rw [IntKind.wrap_u64]; omega
        have w3' : IntKind.u64.wrap (4294967296 * (r : Int)) = 4294967296 * (r : Int) := by rw [IntKind.wrap_u64]; omega
        have w4' : IntKind.u64.wrap (4294967296 * (r : Int) + (ua : Int)) = 4294967296 * (r : Int) + (ua : Int) := by rw [IntKind.wrap_u64]; omega
        rw [hr'] at S2
        have T : (decide ((4294967296 : Int) ≤ (q : Int)) = true) ∨ (decide ((4294967296 : Int) ≤ (q : Int)) = false ∧ IntKind.u64.wrap ((q : Int) * (y0 : Int)) = (q : Int) * (y0 : Int) ∧ decide (4294967296 * (r : Int) + (ua : Int) < (q : Int) * (y0 : Int)) = true) := by
          by_cases h4 : 4294967296 ≤ q
          · exact .inl (decide_eq_true (by omega))
          · have h5 : 4294967296 * r + ua < q * y0 := by omega
            have h6 : q * y0 ≤ 4294967296 * y0 := Nat.mul_le_mul_right _ (by omega)
            refine .inr ⟨decide_eq_false (by omega), ?_, decide_eq_true ?_⟩
            · rw [← Int.natCast_mul, IntKind.wrap_u64]
              generalize q * y0 = P at *
              omega
            · rw [← Int.natCast_mul]
              generalize q * y0 = P at *
              omega
        have hB : (decide ((4294967296 : Int) ≤ (r' : Int)) = true ∧ Hid (4294967296 ≤ r')) ∨ (decide ((4294967296 : Int) ≤ (r' : Int)) = false ∧ Hid (r' < 4294967296)) := by
          by_cases hb : 4294967296 ≤ r'
          · exact .inl ⟨decide_eq_true (by omega), hb⟩
          · exact .inr ⟨decide_eq_false (by omega), by show _ < _; omega⟩
        clear hmore s1 s2 s3 s4 hfin hp hr' ht hq hqr hul' hr
        rcases T with T | ⟨T1, T2, T3⟩
        all_goals
          rcases hB with ⟨B1, B2⟩ | ⟨B1, B2⟩
          · go_wp2
            go_meet
            exact ⟨rfl, p, rfl, hbrk.out B2.out⟩
          · go_wp2
            go_roundg p
            case measure => exact S3.out.2
            case rel => exact ⟨rfl, p, r', rfl, rfl, rfl, by have := S3.out; omega, B2.out, S2, S4⟩
      · have h4 : q < 4294967296 := by omega
        have h5 : q * y0 ≤ 4294967296 * r + ua := by omega
        have h6 := hfin.out q (Dv.out1 hqr.out h5) hul'.out
        have h7 : q * y0 ≤ 4294967296 * y0 := Nat.mul_le_mul_right _ (by omega)
        have T1 : decide ((4294967296 : Int) ≤ (q : Int)) = false := decide_eq_false (by omega)
        have T2 : IntKind.u64.wrap ((q : Int) * (y0 : Int)) = (q : Int) * (y0 : Int) := by
          rw [← Int.natCast_mul, IntKind.wrap_u64]
          generalize q * y0 = P at *
          omega
        have T3 : decide (4294967296 * (r : Int) + (ua : Int) < (q : Int) * (y0 : Int)) = false := by
          refine decide_eq_false ?_
          rw [← Int.natCast_mul]
          generalize q * y0 = P at *
          omega
        have w3' : IntKind.u64.wrap (4294967296 * (r : Int)) = 4294967296 * (r : Int) := by rw [IntKind.wrap_u64]; omega
        have w4' : IntKind.u64.wrap (4294967296 * (r : Int) + (ua : Int)) = 4294967296 * (r : Int) + (ua : Int) := by rw [IntKind.wrap_u64]; omega
        replace h6 : Hid _ := h6
        clear ht hfin h4 h5 h7 hq hqr hul' hr
        go_wp2
        go_meet
        exact ⟨rfl, q, rfl, h6.out⟩
  case rest =>
    obtain ⟨rfl, q1, rfl, hq1b, hq1⟩ := hcut
    have hYp : 0 < Y := by omega
    obtain ⟨U2, hU2⟩ : ∃ U2, (uh * 4294967296 + ua) % Y = U2 := ⟨_, rfl⟩
    have hU2Y : U2 < Y := by rw [← hU2]; exact Nat.mod_lt _ hYp
    have P1 : IntKind.u64.wrap (IntKind.u64.wrap (IntKind.u64.wrap ((uh : Int) * 4294967296) + (ua : Int)) - IntKind.u64.wrap ((q1 : Int) * (Y : Int))) = (U2 : Int) := by
      have e := Nat.div_add_mod' (uh * 4294967296 + ua) Y
      rw [← hq1.out, hU2] at e
      simp only [IntKind.wrap_u64]
      rw [← Int.natCast_mul]
      generalize q1 * Y = P at *
      omega
    clear f1 f2 f3 hRb p1 p2
    obtain ⟨f1, f2, f3⟩ := Dv.first (u1 := ub) hy1b.1 hy0b (by rw [← HY.out]; exact hU2Y) hubb
    obtain ⟨Q2, hQ⟩ : ∃ Q2, U2 / y1 = Q2 := ⟨_, rfl⟩
    obtain ⟨R2, hR⟩ : ∃ R2, U2 % y1 = R2 := ⟨_, rfl⟩
    have hRb : R2 < 4294967296 := by
      have := Nat.mod_lt U2 (show 0 < y1 by omega)
      omega
    have p1 : IntKind.u64.wrap ((U2 : Int) / (y1 : Int)) = (Q2 : Int) := by
      have e : (U2 : Int) / (y1 : Int) = ((U2 / y1 : Nat) : Int) := by simp
      rw [e, hQ, IntKind.wrap_u64]
      omega
    rw [hQ] at f1 f2 f3
    rw [hR] at f1
    have p2 : IntKind.u64.wrap ((U2 : Int) - IntKind.u64.wrap ((Q2 : Int) * (y1 : Int))) = (R2 : Int) := by
      rw [IntKind.wrap_u64, IntKind.wrap_u64, ← Int.natCast_mul]
      generalize Q2 * y1 = P at *
      omega
    replace f3 : Hid _ := f3
    replace f1 : Hid _ := f1
    replace hU2 : Hid _ := hU2
    clear hQ hR
    go_upto_block 2 with fail
    go_cut [16, 18] from 102 to 120 (fun s16 s15 wx => w1 = wx ∧ ∃ qn : Nat, s15 = .int .u64 qn ∧ qn < 4294967296 ∧ Hid (qn = (U2 * 4294967296 + ub) / Y))
    case first =>
      go_wp2_with fail
      go_loopg [16, 18] Q2 (fun gg s16 s15 wx => w1 = wx ∧ ∃ (qn rn : Nat), qn = gg ∧ s15 = .int .u64 qn ∧ s16 = .int .u64 rn ∧ qn ≤ 4294967297 ∧ rn < 4294967296 ∧ Hid (qn * y1 + rn = U2) ∧ Hid (U2 * 4294967296 + ub < (qn + 1) * (y1 * 4294967296 + y0)))
      case atStart => exact ⟨rfl, Q2, R2, rfl, rfl, rfl, f2, hRb, f1, f3⟩
      case round =>
        obtain ⟨rfl, q, r, rfl, rfl, rfl, hq, hr, hqr, hul'⟩ := hrel
        have hfin : ∀ q' : Nat, q' * (y1 * 4294967296 + y0) ≤ U2 * 4294967296 + ub → U2 * 4294967296 + ub < (q' + 1) * (y1 * 4294967296 + y0) → q' < 4294967296 ∧ Hid (q' = (U2 * 4294967296 + ub) / Y) := by
          intro q' g1 g2
          have g3 := (Dv.quo g1 g2).1
          rw [HY.out]
          refine ⟨?_, g3⟩
          rw [g3, Nat.div_lt_iff_lt_mul (by omega)]
          have := hU2Y
          rw [HY.out] at this
          omega
        replace hfin : Hid _ := hfin
        by_cases ht : 4294967296 ≤ q ∨ 4294967296 * r + ub < q * y0
        · have hmore := Dv.more hqr.out (by rw [← HY.out]; exact hU2Y) hubb ht
          obtain ⟨s1, s2, s3, s4⟩ := Dv.step hq hqr.out hmore
          obtain ⟨p, hp⟩ : ∃ p, q - 1 = p := ⟨_, rfl⟩
          rw [hp] at s2 s3 s4
          have S2 : Hid (p * y1 + (r + y1) = U2) := s2
          have S3 : Hid (p ≤ 4294967296 ∧ p < q) := ⟨s3, by omega⟩
          have S4 : Hid (U2 * 4294967296 + ub < (p + 1) * (y1 * 4294967296 + y0)) := s4
          obtain ⟨r', hr'⟩ : ∃ r', r + y1 = r' := ⟨_, rfl⟩
          have hbrk : Hid (4294967296 ≤ r' → p < 4294967296 ∧ Hid (p = (U2 * 4294967296 + ub) / Y)) := fun hb =>
            hfin.out p (Dv.out1 s2 (Dv.out2 s3 hy0b (by omega))) s4
          have w1' : IntKind.u64.wrap ((q : Int) - 1) = (p : Int) := by rw [IntKind.wrap_u64]; omega
          have w2' : IntKind.u64.wrap ((r : Int) + (y1 : Int)) = (r' : Int) := by rw [IntKind.wrap_u64]; omega
          have w3' : IntKind.u64.wrap (4294967296 * (r : Int)) = 4294967296 * (r : Int) := by rw [IntKind.wrap_u64]; omega
          have w4' : IntKind.u64.wrap (4294967296 * (r : Int) + (ub : Int)) = 4294967296 * (r : Int) + (ub : Int) := by rw [IntKind.wrap_u64]; omega
          rw [hr'] at S2
          have T : (decide ((4294967296 : Int) ≤ (q : Int)) = true) ∨ (decide ((4294967296 : Int) ≤ (q : Int)) = false ∧ IntKind.u64.wrap ((q : Int) * (y0 : Int)) = (q : Int) * (y0 : Int) ∧ decide (4294967296 * (r : Int) + (ub : Int) < (q : Int) * (y0 : Int)) = true) := by
            by_cases h4 : 4294967296 ≤ q
            · exact .inl (decide_eq_true (by omega))
            · have h5 : 4294967296 * r + ub < q * y0 := by omega
              have h6 : q * y0 ≤ 4294967296 * y0 := Nat.mul_le_mul_right _ (by omega)
              refine .inr ⟨decide_eq_false (by omega), ?_, decide_eq_true ?_⟩
              · rw [← Int.natCast_mul, IntKind.wrap_u64]
                generalize q * y0 = P at *
                omega
              · rw [← Int.natCast_mul]
                generalize q * y0 = P at *
                omega
          have hB : (decide ((4294967296 : Int) ≤ (r' : Int)) = true ∧ Hid (4294967296 ≤ r')) ∨ (decide ((4294967296 : Int) ≤ (r' : Int)) = false ∧ Hid (r' < 4294967296)) := by
            by_cases hb : 4294967296 ≤ r'
            · exact .inl ⟨decide_eq_true (by omega), hb⟩
            · exact .inr ⟨decide_eq_false (by omega), by show _ < _; omega⟩
          clear hmore s1 s2 s3 s4 hfin hp hr' ht hq hqr hul' hr
          rcases T with T | ⟨T1, T2, T3⟩
          all_goals
            rcases hB with ⟨B1, B2⟩ | ⟨B1, B2⟩
            · go_wp2
              go_meet
              exact ⟨rfl, p, rfl, hbrk.out B2.out⟩
            · go_wp2
              go_roundg p
              case measure => exact S3.out.2
              case rel => exact ⟨rfl, p, r', rfl, rfl, rfl, by have := S3.out; omega, B2.out, S2, S4⟩
        · have h4 : q < 4294967296 := by omega
          have h5 : q * y0 ≤ 4294967296 * r + ub := by omega
          have h6 := hfin.out q (Dv.out1 hqr.out h5) hul'.out
          have h7 : q * y0 ≤ 4294967296 * y0 := Nat.mul_le_mul_right _ (by omega)
          have T1 : decide ((4294967296 : Int) ≤ (q : Int)) = false := decide_eq_false (by omega)
          have T2 : IntKind.u64.wrap ((q : Int) * (y0 : Int)) = (q : Int) * (y0 : Int) := by
            rw [← Int.natCast_mul, IntKind.wrap_u64]
            generalize q * y0 = P at *
            omega
          have T3 : decide (4294967296 * (r : Int) + (ub : Int) < (q : Int) * (y0 : Int)) = false := by
            refine decide_eq_false ?_
            rw [← Int.natCast_mul]
            generalize q * y0 = P at *
            omega
          have w3' : IntKind.u64.wrap (4294967296 * (r : Int)) = 4294967296 * (r : Int) := by rw [IntKind.wrap_u64]; omega
          have w4' : IntKind.u64.wrap (4294967296 * (r : Int) + (ub : Int)) = 4294967296 * (r : Int) + (ub : Int) := by rw [IntKind.wrap_u64]; omega
          replace h6 : Hid _ := h6
          clear ht hfin h4 h5 h7 hq hqr hul' hr
          go_wp2
          go_meet
          exact ⟨rfl, q, rfl, h6.out⟩
    case rest =>
      obtain ⟨rfl, q0, rfl, hq0b, hq0⟩ := hcut
      obtain ⟨U3, hU3⟩ : ∃ U3, (U2 * 4294967296 + ub) % Y = U3 := ⟨_, rfl⟩
      have hU3Y : U3 < Y := by rw [← hU3]; exact Nat.mod_lt _ hYp
      have P2 : IntKind.u64.wrap (IntKind.u64.wrap (IntKind.u64.wrap ((U2 : Int) * 4294967296) + (ub : Int)) - IntKind.u64.wrap ((q0 : Int) * (Y : Int))) = (U3 : Int) := by
        have e := Nat.div_add_mod' (U2 * 4294967296 + ub) Y
        rw [← hq0.out, hU3] at e
        simp only [IntKind.wrap_u64]
        rw [← Int.natCast_mul]
        generalize q0 * Y = P at *
        omega
      have P3 : IntKind.u64.wrap (IntKind.u64.wrap ((q1 : Int) * 4294967296) + (q0 : Int)) = ((q1 * 4294967296 + q0 : Nat) : Int) := by
        simp only [IntKind.wrap_u64]
        omega
      have hbt := Dv.both (u := uh * 4294967296 + ua) (u0 := ub) (q1 := q1) (q0 := q0) hYp hq1.out (by rw [hU2.out]; exact hq0.out)
      rw [hU2.out, hU3] at hbt
      have e9 : (uh * 4294967296 + ua) * 4294967296 + ub = uh * 18446744073709551616 + ul := by have := HU.out; omega
      rw [e9] at hbt
      have hm1 := hmv.out
      rw [hbt.1, hbt.2] at hm1
      obtain ⟨r1, r2⟩ := hm1
      replace r1 : Hid _ := r1
      replace r2 : Hid _ := r2
      clear hbt e9 hU3
      go_wp2_with fail
      go_ret2
      rw [← r1.out, ← r2.out]
      exact ⟨by simp, Keep.refl _⟩
end Go.Proofs.YtgjhbolnnnibkaaGreatDoor.Sc
