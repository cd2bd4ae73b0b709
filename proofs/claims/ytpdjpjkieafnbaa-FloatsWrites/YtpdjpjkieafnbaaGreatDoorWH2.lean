import Derived.Test.YtpdjpjkieafnbaaGreatDoorWXc
import Derived.Test.YtpdjpjkieafnbaaGreatDoorWE1
import Derived.Test.YtpdjpjkieafnbaaGreatDoorNI1
set_option linter.unusedVariables false
set_option linter.unusedSimpArgs false
namespace Go.Proofs.YtpdjpjkieafnbaaGreatDoor.Li
open Go.RowKit Lb Nr
theorem hxD_next (i r : Nat) (hi : i < 13) : hxD (16 ^ (i + 1) + r / 16 ^ (12 - i)) = hxD (16 ^ i + r / 16 ^ (13 - i)) ++ [hd (r / 16 ^ (12 - i) % 16)] := by
  have e1 : (16 : Nat) ^ (i + 1) = 16 * 16 ^ i := by rw [Nat.pow_succ, Nat.mul_comm]
  have e2 : r / 16 ^ (13 - i) = r / 16 ^ (12 - i) / 16 := by
    rw [show 13 - i = (12 - i) + 1 by omega, Nat.pow_succ, Nat.div_div_eq_div_mul]
  have hp : 0 < 16 ^ i := Nat.pow_pos (by omega)
  rw [e2]
  generalize r / 16 ^ (12 - i) = x at *
  rw [hxD_step (by omega), e1]
  have e3 : (16 * 16 ^ i + x) / 16 = 16 ^ i + x / 16 := by omega
  have e4 : (16 * 16 ^ i + x) % 16 = x % 16 := by omega
  rw [e3, e4]
set_option maxRecDepth 100000 in
theorem hd_ix16 (d : Nat) (h : d < 16) (w : World) : (Instr.index 9 (.string ⟨#[48, 49, 50, 51, 52, 53, 54, 55, 56, 57, 97, 98, 99, 100, 101, 102]⟩) (.int .u64 (d : Int))).run Tryz.prog w = .ok (.int .u8 ((hd d).toNat : Int)) w := by
  have key : d = 0 ∨ d = 1 ∨ d = 2 ∨ d = 3 ∨ d = 4 ∨ d = 5 ∨ d = 6 ∨ d = 7 ∨ d = 8 ∨ d = 9 ∨ d = 10 ∨ d = 11 ∨ d = 12 ∨ d = 13 ∨ d = 14 ∨ d = 15 := by omega
  rcases key with rfl | rfl | rfl | rfl | rfl | rfl | rfl | rfl | rfl | rfl | rfl | rfl | rfl | rfl | rfl | rfl
  all_goals rfl
set_option maxRecDepth 100000 in
theorem hd_get (d : Nat) (h : d < 16) : ∀ h2 : d < (ByteArray.mk #[48, 49, 50, 51, 52, 53, 54, 55, 56, 57, 97, 98, 99, 100, 101, 102]).size, (ByteArray.mk #[48, 49, 50, 51, 52, 53, 54, 55, 56, 57, 97, 98, 99, 100, 101, 102])[d]'h2 = hd d := by
  have key : d = 0 ∨ d = 1 ∨ d = 2 ∨ d = 3 ∨ d = 4 ∨ d = 5 ∨ d = 6 ∨ d = 7 ∨ d = 8 ∨ d = 9 ∨ d = 10 ∨ d = 11 ∨ d = 12 ∨ d = 13 ∨ d = 14 ∨ d = 15 := by omega
  rcases key with rfl | rfl | rfl | rfl | rfl | rfl | rfl | rfl | rfl | rfl | rfl | rfl | rfl | rfl | rfl | rfl
  all_goals (intro h2; rfl)
theorem hx_zero : ∀ k, hxD (16 ^ k) = hd 1 :: List.replicate k 48
  | 0 => by rw [Nat.pow_zero, hxD_small (by omega)]; rfl
  | k + 1 => by
    have hp : 0 < 16 ^ k := Nat.pow_pos (by omega)
    have e1 : (16 : Nat) ^ (k + 1) = 16 * 16 ^ k := by rw [Nat.pow_succ, Nat.mul_comm]
    rw [hxD_step (by omega), e1, Nat.mul_div_cancel_left _ (by omega), Nat.mul_mod_right, hx_zero k, List.replicate_succ']
    rfl
theorem trZ_lib (l : List UInt8) : Lib.trimRightB l 48 = trZ l := rfl
/-- What the reference's Hex lays behind the first digit. -/
theorem hx_part {M : Nat} {P : List UInt8} (h : hd 1 :: P = hxD (16 ^ 13 + M % 4503599627370496)) : (if M % 4503599627370496 = 0 then [] else 46 :: Lib.trimRightB ((hxD (4503599627370496 + M % 4503599627370496)).drop 1) 48) = (if trZ P = [] then [] else 46 :: trZ P) := by
  have e16 : (16 : Nat) ^ 13 = 4503599627370496 := by decide
  have hP : (hxD (4503599627370496 + M % 4503599627370496)).drop 1 = P := by rw [← e16, e16, ← e16, ← h]; rfl
  by_cases c : M % 4503599627370496 = 0
  · rw [if_pos c]
    rw [c, Nat.add_zero, hx_zero] at h
    have hP2 : P = List.replicate 13 48 := (List.cons.inj h).2
    have ht : trZ P = [] := by
      rw [hP2]
      rfl
    rw [ht, if_pos rfl]
  · rw [if_neg c]
    obtain ⟨B, hB, hB0, -⟩ := hx_kept (Nat.mod_lt M (by omega)) c
    rw [hP, trZ_lib] at hB
    rw [hP, trZ_lib, hB, if_neg hB0]
theorem sixteen (i : Nat) (hi : i < 13) : (16 : Nat) ^ (12 - i) = 2 ^ (48 - 4 * i) := by
  rw [show (16 : Nat) = 2 ^ 4 by decide, ← Nat.pow_mul]
  congr 1
  omega
end Go.Proofs.YtpdjpjkieafnbaaGreatDoor.Li
set_option linter.unusedVariables false
set_option linter.unusedSimpArgs false
namespace Go.Proofs.YtpdjpjkieafnbaaGreatDoor.Li
open Go.RowKit Lb Nr
set_option maxRecDepth 100000 in
set_option maxHeartbeats 2000000 in
/-- The reference's Hex of a number that has digits. -/
theorem rHex_some (a : Bool) (M : Nat) (E : Int) (w : World) (hM : 0 < M) (hMb : M < 9007199254740992) (hE : -1074 ≤ E ∧ E ≤ 971) (hsub : M < 4503599627370496 → E = -1074) :
    Calls Tryz.prog 26 #[.agg #[.bool a, .bool false, .bool false, .int .u64 (M : Int), .int .i64 E]] w fun e w' => e = .returned (.string ⟨(sgN a ++ hxT M E).toArray⟩) ∧ Keep w w' := by
  obtain ⟨W, hW, B1, kW⟩ := Nb.box w a false false M E
  have hSp := special_some a M E W hM
  obtain ⟨s, hs⟩ : ∃ s, sgN a = s := ⟨_, rfl⟩
  have ls : s.length ≤ 1 := by rw [← hs]; unfold sgN; split <;> decide
  rw [hs] at hSp ⊢
  obtain ⟨zs, ezs⟩ : ∃ z, (ByteArray.mk s.toArray).size = z := ⟨_, rfl⟩
  have szs : zs ≤ 1 := by rw [← ezs, sz_mk]; exact ls
  obtain ⟨R, hR⟩ : ∃ R, hxT M E = R := ⟨_, rfl⟩
  rw [hR]
  have HR : Hid (hxT M E = R) := hR
  obtain ⟨y, hy⟩ : ∃ y : Int, E + 52 = y := ⟨_, rfl⟩
  obtain ⟨r, hr⟩ : ∃ r, M % 4503599627370496 = r := ⟨_, rfl⟩
  have hrb : r < 4503599627370496 := by rw [← hr]; exact Nat.mod_lt _ (by omega)
  have hand := and52 M (by omega)
  rw [show pKept M = r from hr] at hand
  have wy : IntKind.i64.wrap (E + 52) = y := by rw [IntWalk.i64_left, hy]; exact IntWalk.wrap64_in _ (by omega)
  obtain ⟨ld, hld⟩ : ∃ ld, [48, 120] ++ dD (M / 4503599627370496) = ld := ⟨_, rfl⟩
  have HY : Hid (E + 52 = y ∧ M % 4503599627370496 = r ∧ [48, 120] ++ dD (M / 4503599627370496) = ld ∧ -1022 ≤ y ∧ y ≤ 1023 ∧ r < 4503599627370496) := ⟨hy, hr, hld, by omega, by omega, hrb⟩
  have hld2 : (M < 4503599627370496 ∧ ld = [48, 120, 48] ∧ y = -1022) ∨ (¬ M < 4503599627370496 ∧ ld = [48, 120, 49]) := by
    by_cases c : M < 4503599627370496
    · refine .inl ⟨c, ?_, by have := hsub c; omega⟩
      rw [← hld, Nat.div_eq_of_lt c, dD_small (by omega)]
      rfl
    · refine .inr ⟨c, ?_⟩
      rw [← hld, show M / 4503599627370496 = 1 by omega, dD_small (by omega)]
      rfl
  obtain ⟨bb, hbb⟩ : ∃ bb, decide (M < 4503599627370496) = bb := ⟨_, rfl⟩
  have hbb2 : decide ((M : Int) < 4503599627370496) = bb := by
    rw [← hbb]
    by_cases c : M < 4503599627370496
    · rw [decide_eq_true c, decide_eq_true (by omega)]
    · rw [decide_eq_false c, decide_eq_false (by omega)]
  have HLD : Hid ((bb = true ∧ ld = [48, 120, 48] ∧ y = -1022) ∨ (bb = false ∧ ld = [48, 120, 49])) := by
    rcases hld2 with ⟨g1, g2, g3⟩ | ⟨g1, g2⟩
    · exact .inl ⟨by rw [← hbb]; exact decide_eq_true g1, g2, g3⟩
    · exact .inr ⟨by rw [← hbb]; exact decide_eq_false g1, g2⟩
  have HMB : Hid (M < 9007199254740992) := hMb
  clear hs hR hy hr hld hsub hE hrb hM hld2
  go_enter Tryz.func26, Tryz.ntmps26
  go_wp2_with fail
  rw [← hW]
  clear hW
  refine hSp.mono ?_
  rintro e w1 ⟨rfl, k1⟩
  obtain ⟨c0, c1, c2, c3, c4⟩ := (B1.keep k1).cells
  have K1 : Hid (Keep w w1) := kW.trans k1
  clear hSp kW k1 B1
  go_upto_if 34 with fail
  go_cut [5, 6] from 29 to 37 (fun s5 s6 wx => s5 = .string ⟨ld.toArray⟩ ∧ s6 = .int .i64 y ∧ w1 = wx)
  case first =>
    rcases HLD.out with ⟨g1, g2, g3⟩ | ⟨g1, g2⟩
    · subst g1 g2 g3
      clear HLD HY hMb hbb hbb2
      go_wp2_with fail
      go_meet
      exact ⟨rfl, rfl, rfl⟩
    · subst g1 g2
      clear HLD HY hMb hbb hbb2
      go_wp2_with fail
      go_meet
      exact ⟨rfl, rfl, rfl⟩
  case rest =>
    obtain ⟨rfl, rfl, rfl⟩ := hcut
    clear HLD hMb
    go_wp2_with fail
    go_loopg [8, 9] (13) (fun g v8 v9 wx => ∃ (i : Nat) (P : List UInt8), i + g = 13 ∧ v8 = .string ⟨P.toArray⟩ ∧ v9 = .int .i64 (i : Int) ∧ Hid (hd 1 :: P = hxD (16 ^ i + r / 16 ^ (13 - i)) ∧ P.length ≤ i) ∧ Keep w1 wx)
    case atStart =>
      refine ⟨0, [], by omega, rfl, rfl, ⟨?_, Nat.le_refl _⟩, Keep.refl _⟩
      rw [Nat.div_eq_of_lt (show r < 16 ^ (13 - 0) by rw [show (16 : Nat) ^ (13 - 0) = 4503599627370496 by decide]; exact HY.out.2.2.2.2.2)]
      rw [hxD_small (by decide)]
    case round =>
      obtain ⟨i, P, hig, rfl, rfl, hP, hkp⟩ := hrel
      have KP : Hid (Keep w1 wr) := hkp
      clear hkp
      by_cases hi : i < 13
      · have hile : (i : Int) < 13 := by omega
        have hlP : P.length ≤ 13 := by have := hP.out.2; omega
        obtain ⟨zP, ezP⟩ : ∃ z, (ByteArray.mk P.toArray).size = z := ⟨_, rfl⟩
        have szP : zP ≤ 13 := by rw [← ezP, sz_mk]; exact hlP
        obtain ⟨t, ht⟩ : ∃ t : Nat, 48 - 4 * i = t := ⟨_, rfl⟩
        have w4 : IntKind.i64.wrap (4 * (i : Int)) = 4 * (i : Int) := by rw [IntWalk.i64_left]; exact IntWalk.wrap64_in _ (by omega)
        have w5 : IntKind.i64.wrap (48 - 4 * (i : Int)) = (t : Int) := by rw [IntWalk.i64_left, show 48 - 4 * (i : Int) = (t : Int) by omega]; exact IntWalk.wrap64_in _ (by omega)
        have w6 : IntKind.u64.wrap (t : Int) = (t : Int) := by rw [IntKind.wrap_u64]; omega
        obtain ⟨dg, hdg⟩ : ∃ dg, r / 2 ^ t % 16 = dg := ⟨_, rfl⟩
        have hdg16 : dg < 16 := by rw [← hdg]; exact Nat.mod_lt _ (by omega)
        have hbt : bits .and .u64 ((r : Int) / 2 ^ t) 15 = (dg : Int) := by
          have h9 := and15 (r / 2 ^ t) (Nat.lt_of_le_of_lt (Nat.div_le_self _ _) (by have := HY.out.2.2.2.2.2; omega))
          rw [hdg] at h9
          have h8 : ((r / 2 ^ t : Nat) : Int) = (r : Int) / 2 ^ t := by first | (rw [Int.natCast_ediv, Int.natCast_pow]; rfl) | simp
          rw [h8] at h9
          exact h9
        have hmn : min t 64 = t := by omega
        have hbt2 : bits .and .u64 ((r : Int) / 2 ^ min t 64) 15 = (dg : Int) := by rw [hmn]; exact hbt
        have hix := fun wx => hd_ix16 dg hdg16 wx
        obtain ⟨cc, hcc⟩ : ∃ cc, hd dg = cc := ⟨_, rfl⟩
        rw [hcc] at hix
        have hgt := hd_get dg hdg16
        rw [hcc] at hgt
        have hix1 := hix wr
        have hcv := fun wx => convZ wx cc.toNat (UInt8.toNat_lt cc)
        rw [UInt8.ofNat_toNat] at hcv
        have hcat : ByteArray.mk P.toArray ++ ByteArray.mk #[cc] = ⟨(P ++ [cc]).toArray⟩ := catB P [cc]
        obtain ⟨P2, hP2⟩ : ∃ P2, P ++ [cc] = P2 := ⟨_, rfl⟩
        rw [hP2] at hcat
        have HP2 : Hid (hd 1 :: P2 = hxD (16 ^ (i + 1) + r / 16 ^ (13 - (i + 1))) ∧ P2.length ≤ i + 1) := by
          refine ⟨?_, ?_⟩
          · rw [show 13 - (i + 1) = 12 - i by omega, hxD_next i r hi, ← hP.out.1, sixteen i hi, ht, hdg, hcc, ← hP2]
            rfl
          · rw [← hP2, List.length_append]
            have := hP.out.2
            show _ + 1 ≤ _
            omega
        have HIG : Hid (i + 1 + (gk - 1) = 13 ∧ gk - 1 < gk) := ⟨by omega, by omega⟩
        have x1 : IntKind.i64.wrap ((i : Int) + 1) = ((i + 1 : Nat) : Int) := by rw [IntWalk.i64_left]; exact IntWalk.wrap64_in _ (by omega)
        clear hP hig hP2 hcc hdg ht hlP
        go_wp2_with fail
        go_roundg (gk - 1)
        case measure => exact HIG.out.2
        case rel => exact ⟨i + 1, P2, HIG.out.1, rfl, by first | rfl | simp, HP2.out, KP.out.alloc _⟩
      · obtain rfl : i = 13 := by omega
        have hile : ¬ ((13 : Nat) : Int) < 13 := by omega
        have hRe : Hid (R = [48, 120] ++ dD (M / 4503599627370496) ++ ((if trZ P = [] then [] else 46 :: trZ P) ++ (112 :: wsT y))) := by
          unfold Hid
          rw [← HR.out]
          unfold hxT
          rw [HY.out.1, hx_part (P := P) (by
            have h9 := hP.out.1
            rw [Nat.sub_self, Nat.pow_zero, Nat.div_one] at h9
            rw [HY.out.2.1]
            exact h9)]
        rw [HY.out.2.2.1] at hRe
        have HLP : Hid (P.length ≤ 13) := hP.out.2
        clear hP hig HR hi
        go_wp2_with fail
        go_loopg [8] (P.length) (fun g v8 wx => ∃ (Q : List UInt8), v8 = .string ⟨Q.toArray⟩ ∧ Hid (Q.length = g ∧ g ≤ 13 ∧ trZ Q = trZ P) ∧ Keep w1 wx)
        case atStart => exact ⟨P, rfl, ⟨rfl, HLP.out, rfl⟩, KP.out⟩
        case round =>
          obtain ⟨Q, rfl, hQ, kr⟩ := hrel
          have KR : Hid (Keep w wr) := K1.out.trans kr
          have KR1 : Hid (Keep w1 wr) := kr
          clear kr KP
          have lld : ld.length ≤ 4 := by
            rw [← HY.out.2.2.1, List.length_append]
            have h9 := dD_len 1 (M / 4503599627370496) (by show _ < 100; have := HMB.out; omega)
            show 2 + _ ≤ _
            omega
          have hyb := HY.out.2.2.2
          obtain ⟨zl, ezl⟩ : ∃ z, (ByteArray.mk ld.toArray).size = z := ⟨_, rfl⟩
          have szl : zl ≤ 4 := by rw [← ezl, sz_mk]; exact lld
          have fin : ∀ (hT : trZ Q = Q), Hid (R = ld ++ ((if Q = [] then [] else 46 :: Q) ++ (112 :: wsT y))) := fun hT => by
            unfold Hid
            rw [hRe.out, ← hQ.out.2.2, hT]
          by_cases hq0 : Q = []
          · have f := fin (by rw [hq0]; rfl)
            subst hq0
            have f2 : Hid (R = ld ++ (112 :: wsT y)) := by unfold Hid; rw [f.out, if_pos rfl]; rfl
            clear fin f
            by_cases hy0 : y < 0
            · obtain ⟨n, hn⟩ : ∃ n : Nat, -y = (n : Int) := ⟨(-y).toNat, by omega⟩
              have hws : wsT y = 45 :: dD n := by rw [show y = -(n : Int) by omega]; unfold wsT; rw [if_pos (by omega), Int.natAbs_neg]; rfl
              have q7 : decide (y < 0) = true := decide_eq_true hy0
              have w8 : IntKind.i64.wrap (-y) = (n : Int) := by rw [IntWalk.i64_left, hn]; exact IntWalk.wrap64_in _ (by omega)
              have w9 : wrap64 (-y) = (n : Int) := by rw [hn]; exact IntWalk.wrap64_in _ (by omega)
              have hNb := fun wx => number_dD n wx (by omega)
              obtain ⟨nm, hnm⟩ : ∃ F : List UInt8, F = dD n := ⟨_, rfl⟩
              have lnm : nm.length ≤ 5 := by
                rw [hnm]
                exact dD_few (by omega)
              obtain ⟨znm, enm⟩ : ∃ z, (ByteArray.mk nm.toArray).size = z := ⟨_, rfl⟩
              have snm : znm ≤ 5 := by rw [← enm, sz_mk]; exact lnm
              rw [← hnm] at hNb hws
              obtain ⟨F1, hF1⟩ : ∃ F : List UInt8, F = s ++ ld := ⟨_, rfl⟩
              have cF1 : ByteArray.mk s.toArray ++ ByteArray.mk ld.toArray = ByteArray.mk F1.toArray := by rw [hF1]; exact catB (s) (ld)
              obtain ⟨zF1, eF1⟩ : ∃ z, (ByteArray.mk F1.toArray).size = z := ⟨_, rfl⟩
              have lF1 : F1.length ≤ 5 := by
                rw [hF1, List.length_append]
                have := ls
                have := lld
                try simp only [List.length_cons, List.length_nil]
                omega
              have sF1 : zF1 ≤ 5 := by rw [← eF1, sz_mk]; exact lF1
              have HF1 : Hid (F1 = s ++ ld) := hF1
              clear hF1
              obtain ⟨F2, hF2⟩ : ∃ F : List UInt8, F = F1 ++ [112, 45] := ⟨_, rfl⟩
              have cF2 : ByteArray.mk F1.toArray ++ ByteArray.mk #[112, 45] = ByteArray.mk F2.toArray := by rw [hF2]; exact catB (F1) ([112, 45])
              obtain ⟨zF2, eF2⟩ : ∃ z, (ByteArray.mk F2.toArray).size = z := ⟨_, rfl⟩
              have lF2 : F2.length ≤ 7 := by
                rw [hF2, List.length_append]
                have := lF1
                try simp only [List.length_cons, List.length_nil]
                omega
              have sF2 : zF2 ≤ 7 := by rw [← eF2, sz_mk]; exact lF2
              have HF2 : Hid (F2 = F1 ++ [112, 45]) := hF2
              clear hF2
              obtain ⟨F3, hF3⟩ : ∃ F : List UInt8, F = F2 ++ nm := ⟨_, rfl⟩
              have cF3 : ByteArray.mk F2.toArray ++ ByteArray.mk nm.toArray = ByteArray.mk F3.toArray := by rw [hF3]; exact catB (F2) (nm)
              obtain ⟨zF3, eF3⟩ : ∃ z, (ByteArray.mk F3.toArray).size = z := ⟨_, rfl⟩
              have lF3 : F3.length ≤ 20 := by
                rw [hF3, List.length_append]
                have := lF2
                have := lnm
                try simp only [List.length_cons, List.length_nil]
                omega
              have sF3 : zF3 ≤ 20 := by rw [← eF3, sz_mk]; exact lF3
              have HF3 : Hid (F3 = F2 ++ nm) := hF3
              clear hF3
              have HE : Hid (s ++ R = F3) := by unfold Hid; rw [HF3.out, HF2.out, HF1.out, f2.out, hws]; simp
              have e1 : ByteArray.mk F1.toArray ++ ByteArray.mk #[] = ByteArray.mk F1.toArray := by have h9 := catB F1 []; rw [List.append_nil] at h9; exact h9
              clear hnm hws hyb hQ hRe HY hn hy0
              go_wp2_with fail
              refine (hNb _).mono ?_
              rintro e w3 ⟨rfl, k3⟩
              go_wp2_with fail
              go_ret
              exact ⟨by rw [HE.out]; rfl, KR.out.trans k3⟩
            · obtain ⟨n, hn⟩ : ∃ n : Nat, y = (n : Int) := ⟨y.toNat, by omega⟩
              have hws : wsT y = 43 :: dD n := by rw [hn]; unfold wsT; rw [if_neg (by omega)]; rfl
              have q7 : decide (((n : Nat) : Int) < 0) = false := decide_eq_false (by omega)
              have hNb := fun wx => number_dD n wx (by omega)
              obtain ⟨nm, hnm⟩ : ∃ F : List UInt8, F = dD n := ⟨_, rfl⟩
              have lnm : nm.length ≤ 5 := by
                rw [hnm]
                exact dD_few (by omega)
              obtain ⟨znm, enm⟩ : ∃ z, (ByteArray.mk nm.toArray).size = z := ⟨_, rfl⟩
              have snm : znm ≤ 5 := by rw [← enm, sz_mk]; exact lnm
              rw [← hnm] at hNb hws
              obtain ⟨F1, hF1⟩ : ∃ F : List UInt8, F = s ++ ld := ⟨_, rfl⟩
              have cF1 : ByteArray.mk s.toArray ++ ByteArray.mk ld.toArray = ByteArray.mk F1.toArray := by rw [hF1]; exact catB (s) (ld)
              obtain ⟨zF1, eF1⟩ : ∃ z, (ByteArray.mk F1.toArray).size = z := ⟨_, rfl⟩
              have lF1 : F1.length ≤ 5 := by
                rw [hF1, List.length_append]
                have := ls
                have := lld
                try simp only [List.length_cons, List.length_nil]
                omega
              have sF1 : zF1 ≤ 5 := by rw [← eF1, sz_mk]; exact lF1
              have HF1 : Hid (F1 = s ++ ld) := hF1
              clear hF1
              obtain ⟨F2, hF2⟩ : ∃ F : List UInt8, F = F1 ++ [112, 43] := ⟨_, rfl⟩
              have cF2 : ByteArray.mk F1.toArray ++ ByteArray.mk #[112, 43] = ByteArray.mk F2.toArray := by rw [hF2]; exact catB (F1) ([112, 43])
              obtain ⟨zF2, eF2⟩ : ∃ z, (ByteArray.mk F2.toArray).size = z := ⟨_, rfl⟩
              have lF2 : F2.length ≤ 7 := by
                rw [hF2, List.length_append]
                have := lF1
                try simp only [List.length_cons, List.length_nil]
                omega
              have sF2 : zF2 ≤ 7 := by rw [← eF2, sz_mk]; exact lF2
              have HF2 : Hid (F2 = F1 ++ [112, 43]) := hF2
              clear hF2
              obtain ⟨F3, hF3⟩ : ∃ F : List UInt8, F = F2 ++ nm := ⟨_, rfl⟩
              have cF3 : ByteArray.mk F2.toArray ++ ByteArray.mk nm.toArray = ByteArray.mk F3.toArray := by rw [hF3]; exact catB (F2) (nm)
              obtain ⟨zF3, eF3⟩ : ∃ z, (ByteArray.mk F3.toArray).size = z := ⟨_, rfl⟩
              have lF3 : F3.length ≤ 20 := by
                rw [hF3, List.length_append]
                have := lF2
                have := lnm
                try simp only [List.length_cons, List.length_nil]
                omega
              have sF3 : zF3 ≤ 20 := by rw [← eF3, sz_mk]; exact lF3
              have HF3 : Hid (F3 = F2 ++ nm) := hF3
              clear hF3
              have HE : Hid (s ++ R = F3) := by unfold Hid; rw [HF3.out, HF2.out, HF1.out, f2.out, hws]; simp
              have e1 : ByteArray.mk F1.toArray ++ ByteArray.mk #[] = ByteArray.mk F1.toArray := by have h9 := catB F1 []; rw [List.append_nil] at h9; exact h9
              subst hn
              clear hnm hws hyb hQ hRe HY hy0
              go_wp2_with fail
              refine (hNb _).mono ?_
              rintro e w3 ⟨rfl, k3⟩
              go_wp2_with fail
              go_ret
              exact ⟨by rw [HE.out]; rfl, KR.out.trans k3⟩
          · obtain ⟨Q', c, hQc⟩ : ∃ Q' c, Q = Q' ++ [c] := ⟨Q.dropLast, Q.getLast hq0, (List.dropLast_concat_getLast hq0).symm⟩
            have hQl : Q.length = Q'.length + 1 := by rw [hQc, List.length_append]; rfl
            have ezQ : (ByteArray.mk Q.toArray).size = Q'.length + 1 := by rw [sz_mk, hQl]
            have hix := run_ix Q Q'.length (by omega) wr
            have hgd : Q.getD Q'.length 0 = c := by rw [hQc]; simp
            rw [hgd] at hix
            have hbd : Q'.length ≤ 13 := by have := hQ.out; omega
            obtain ⟨m2, hm2⟩ : ∃ m2, Q'.length = m2 := ⟨_, rfl⟩
            rw [hm2] at ezQ hix hbd hQl
            have w6 : IntKind.i64.wrap (((m2 + 1 : Nat) : Int) - 1) = (m2 : Int) := by rw [IntWalk.i64_left, show ((m2 + 1 : Nat) : Int) - 1 = (m2 : Int) by omega]; exact IntWalk.wrap64_in _ (by omega)
            have w7 : IntKind.i64.wrap ((m2 : Int) + 1 - 1) = (m2 : Int) := by rw [IntWalk.i64_left, show (m2 : Int) + 1 - 1 = (m2 : Int) by omega]; exact IntWalk.wrap64_in _ (by omega)
            have q2 : decide ((0 : Int) < ((m2 + 1 : Nat) : Int)) = true := decide_eq_true (by omega)
            by_cases hc : c = 48
            · have hup := run_upto Q m2 (by omega) wr
              have htk : Q.take m2 = Q' := by rw [hQc, ← hm2]; simp
              rw [htk] at hup
              have hc8 : (((c.toNat : Nat) : Int) == 48) = true := by rw [hc]; rfl
              have HM2 : Hid (m2 < gk ∧ Q'.length = m2 ∧ m2 ≤ 13 ∧ trZ Q' = trZ P) := by
                have h9 := hQ.out
                refine ⟨by omega, hm2, hbd, ?_⟩
                rw [← h9.2.2, hQc, hc, trZ_step]
              clear fin hQ hQc hgd htk hQl hm2 hq0 hc hyb
              go_wp2_with fail
              go_roundg m2
              case measure => exact HM2.out.1
              case rel => exact ⟨Q', rfl, ⟨HM2.out.2.1, HM2.out.2.2.1, HM2.out.2.2.2⟩, KR1.out⟩
            · have hc8 : (((c.toNat : Nat) : Int) == 48) = false := by
                rw [beq_eq_false_iff_ne]
                intro h9
                exact hc (UInt8.toNat_inj.1 (by show c.toNat = 48; omega))
              have f := fin (by rw [hQc]; exact trZ_end _ _ hc)
              have f2 : Hid (R = ld ++ ((46 :: Q) ++ (112 :: wsT y))) := by unfold Hid; rw [f.out, if_neg hq0]
              have hne : Q.isEmpty = false := by
                cases hq : Q with
                | nil => exact absurd hq hq0
                | cons x X => rfl
              clear fin f hQc hgd hQl hm2 hq0 hc
              by_cases hy0 : y < 0
              · obtain ⟨n, hn⟩ : ∃ n : Nat, -y = (n : Int) := ⟨(-y).toNat, by omega⟩
                have hws : wsT y = 45 :: dD n := by rw [show y = -(n : Int) by omega]; unfold wsT; rw [if_pos (by omega), Int.natAbs_neg]; rfl
                have q7 : decide (y < 0) = true := decide_eq_true hy0
                have w8 : IntKind.i64.wrap (-y) = (n : Int) := by rw [IntWalk.i64_left, hn]; exact IntWalk.wrap64_in _ (by omega)
                have w9 : wrap64 (-y) = (n : Int) := by rw [hn]; exact IntWalk.wrap64_in _ (by omega)
                have hNb := fun wx => number_dD n wx (by omega)
                obtain ⟨nm, hnm⟩ : ∃ F : List UInt8, F = dD n := ⟨_, rfl⟩
                have lnm : nm.length ≤ 5 := by
                  rw [hnm]
                  exact dD_few (by omega)
                obtain ⟨znm, enm⟩ : ∃ z, (ByteArray.mk nm.toArray).size = z := ⟨_, rfl⟩
                have snm : znm ≤ 5 := by rw [← enm, sz_mk]; exact lnm
                rw [← hnm] at hNb hws
                obtain ⟨dq, hdq⟩ : ∃ dq, 46 :: Q = dq := ⟨_, rfl⟩
                have cq : ByteArray.mk #[46] ++ ByteArray.mk Q.toArray = ByteArray.mk dq.toArray := by rw [← hdq]; exact catB [46] Q
                have ldq : dq.length ≤ 14 := by rw [← hdq, List.length_cons]; have := hQ.out; omega
                obtain ⟨zdq, ezdq⟩ : ∃ z, (ByteArray.mk dq.toArray).size = z := ⟨_, rfl⟩
                have szdq : zdq ≤ 14 := by rw [← ezdq, sz_mk]; exact ldq
                obtain ⟨F1, hF1⟩ : ∃ F : List UInt8, F = s ++ ld := ⟨_, rfl⟩
                have cF1 : ByteArray.mk s.toArray ++ ByteArray.mk ld.toArray = ByteArray.mk F1.toArray := by rw [hF1]; exact catB (s) (ld)
                obtain ⟨zF1, eF1⟩ : ∃ z, (ByteArray.mk F1.toArray).size = z := ⟨_, rfl⟩
                have lF1 : F1.length ≤ 5 := by
                  rw [hF1, List.length_append]
                  have := ls
                  have := lld
                  try simp only [List.length_cons, List.length_nil]
                  omega
                have sF1 : zF1 ≤ 5 := by rw [← eF1, sz_mk]; exact lF1
                have HF1 : Hid (F1 = s ++ ld) := hF1
                clear hF1
                obtain ⟨F2, hF2⟩ : ∃ F : List UInt8, F = F1 ++ dq := ⟨_, rfl⟩
                have cF2 : ByteArray.mk F1.toArray ++ ByteArray.mk dq.toArray = ByteArray.mk F2.toArray := by rw [hF2]; exact catB (F1) (dq)
                obtain ⟨zF2, eF2⟩ : ∃ z, (ByteArray.mk F2.toArray).size = z := ⟨_, rfl⟩
                have lF2 : F2.length ≤ 20 := by
                  rw [hF2, List.length_append]
                  have := lF1
                  have := ldq
                  try simp only [List.length_cons, List.length_nil]
                  omega
                have sF2 : zF2 ≤ 20 := by rw [← eF2, sz_mk]; exact lF2
                have HF2 : Hid (F2 = F1 ++ dq) := hF2
                clear hF2
                obtain ⟨F3, hF3⟩ : ∃ F : List UInt8, F = F2 ++ [112, 45] := ⟨_, rfl⟩
                have cF3 : ByteArray.mk F2.toArray ++ ByteArray.mk #[112, 45] = ByteArray.mk F3.toArray := by rw [hF3]; exact catB (F2) ([112, 45])
                obtain ⟨zF3, eF3⟩ : ∃ z, (ByteArray.mk F3.toArray).size = z := ⟨_, rfl⟩
                have lF3 : F3.length ≤ 22 := by
                  rw [hF3, List.length_append]
                  have := lF2
                  try simp only [List.length_cons, List.length_nil]
                  omega
                have sF3 : zF3 ≤ 22 := by rw [← eF3, sz_mk]; exact lF3
                have HF3 : Hid (F3 = F2 ++ [112, 45]) := hF3
                clear hF3
                obtain ⟨F4, hF4⟩ : ∃ F : List UInt8, F = F3 ++ nm := ⟨_, rfl⟩
                have cF4 : ByteArray.mk F3.toArray ++ ByteArray.mk nm.toArray = ByteArray.mk F4.toArray := by rw [hF4]; exact catB (F3) (nm)
                obtain ⟨zF4, eF4⟩ : ∃ z, (ByteArray.mk F4.toArray).size = z := ⟨_, rfl⟩
                have lF4 : F4.length ≤ 30 := by
                  rw [hF4, List.length_append]
                  have := lF3
                  have := lnm
                  try simp only [List.length_cons, List.length_nil]
                  omega
                have sF4 : zF4 ≤ 30 := by rw [← eF4, sz_mk]; exact lF4
                have HF4 : Hid (F4 = F3 ++ nm) := hF4
                clear hF4
                have HE : Hid (s ++ R = F4) := by unfold Hid; rw [HF4.out, HF3.out, HF2.out, HF1.out, f2.out, hws, ← hdq]; simp
                clear hnm hws hyb hQ hRe HY hdq hn hy0
                go_wp2_with fail
                refine (hNb _).mono ?_
                rintro e w3 ⟨rfl, k3⟩
                go_wp2_with fail
                go_ret
                exact ⟨by rw [HE.out]; rfl, KR.out.trans k3⟩
              · obtain ⟨n, hn⟩ : ∃ n : Nat, y = (n : Int) := ⟨y.toNat, by omega⟩
                have hws : wsT y = 43 :: dD n := by rw [hn]; unfold wsT; rw [if_neg (by omega)]; rfl
                have q7 : decide (((n : Nat) : Int) < 0) = false := decide_eq_false (by omega)
                have hNb := fun wx => number_dD n wx (by omega)
                obtain ⟨nm, hnm⟩ : ∃ F : List UInt8, F = dD n := ⟨_, rfl⟩
                have lnm : nm.length ≤ 5 := by
                  rw [hnm]
                  exact dD_few (by omega)
                obtain ⟨znm, enm⟩ : ∃ z, (ByteArray.mk nm.toArray).size = z := ⟨_, rfl⟩
                have snm : znm ≤ 5 := by rw [← enm, sz_mk]; exact lnm
                rw [← hnm] at hNb hws
                obtain ⟨dq, hdq⟩ : ∃ dq, 46 :: Q = dq := ⟨_, rfl⟩
                have cq : ByteArray.mk #[46] ++ ByteArray.mk Q.toArray = ByteArray.mk dq.toArray := by rw [← hdq]; exact catB [46] Q
                have ldq : dq.length ≤ 14 := by rw [← hdq, List.length_cons]; have := hQ.out; omega
                obtain ⟨zdq, ezdq⟩ : ∃ z, (ByteArray.mk dq.toArray).size = z := ⟨_, rfl⟩
                have szdq : zdq ≤ 14 := by rw [← ezdq, sz_mk]; exact ldq
                obtain ⟨F1, hF1⟩ : ∃ F : List UInt8, F = s ++ ld := ⟨_, rfl⟩
                have cF1 : ByteArray.mk s.toArray ++ ByteArray.mk ld.toArray = ByteArray.mk F1.toArray := by rw [hF1]; exact catB (s) (ld)
                obtain ⟨zF1, eF1⟩ : ∃ z, (ByteArray.mk F1.toArray).size = z := ⟨_, rfl⟩
                have lF1 : F1.length ≤ 5 := by
                  rw [hF1, List.length_append]
                  have := ls
                  have := lld
                  try simp only [List.length_cons, List.length_nil]
                  omega
                have sF1 : zF1 ≤ 5 := by rw [← eF1, sz_mk]; exact lF1
                have HF1 : Hid (F1 = s ++ ld) := hF1
                clear hF1
                obtain ⟨F2, hF2⟩ : ∃ F : List UInt8, F = F1 ++ dq := ⟨_, rfl⟩
                have cF2 : ByteArray.mk F1.toArray ++ ByteArray.mk dq.toArray = ByteArray.mk F2.toArray := by rw [hF2]; exact catB (F1) (dq)
                obtain ⟨zF2, eF2⟩ : ∃ z, (ByteArray.mk F2.toArray).size = z := ⟨_, rfl⟩
                have lF2 : F2.length ≤ 20 := by
                  rw [hF2, List.length_append]
                  have := lF1
                  have := ldq
                  try simp only [List.length_cons, List.length_nil]
                  omega
                have sF2 : zF2 ≤ 20 := by rw [← eF2, sz_mk]; exact lF2
                have HF2 : Hid (F2 = F1 ++ dq) := hF2
                clear hF2
                obtain ⟨F3, hF3⟩ : ∃ F : List UInt8, F = F2 ++ [112, 43] := ⟨_, rfl⟩
                have cF3 : ByteArray.mk F2.toArray ++ ByteArray.mk #[112, 43] = ByteArray.mk F3.toArray := by rw [hF3]; exact catB (F2) ([112, 43])
                obtain ⟨zF3, eF3⟩ : ∃ z, (ByteArray.mk F3.toArray).size = z := ⟨_, rfl⟩
                have lF3 : F3.length ≤ 22 := by
                  rw [hF3, List.length_append]
                  have := lF2
                  try simp only [List.length_cons, List.length_nil]
                  omega
                have sF3 : zF3 ≤ 22 := by rw [← eF3, sz_mk]; exact lF3
                have HF3 : Hid (F3 = F2 ++ [112, 43]) := hF3
                clear hF3
                obtain ⟨F4, hF4⟩ : ∃ F : List UInt8, F = F3 ++ nm := ⟨_, rfl⟩
                have cF4 : ByteArray.mk F3.toArray ++ ByteArray.mk nm.toArray = ByteArray.mk F4.toArray := by rw [hF4]; exact catB (F3) (nm)
                obtain ⟨zF4, eF4⟩ : ∃ z, (ByteArray.mk F4.toArray).size = z := ⟨_, rfl⟩
                have lF4 : F4.length ≤ 30 := by
                  rw [hF4, List.length_append]
                  have := lF3
                  have := lnm
                  try simp only [List.length_cons, List.length_nil]
                  omega
                have sF4 : zF4 ≤ 30 := by rw [← eF4, sz_mk]; exact lF4
                have HF4 : Hid (F4 = F3 ++ nm) := hF4
                clear hF4
                have HE : Hid (s ++ R = F4) := by unfold Hid; rw [HF4.out, HF3.out, HF2.out, HF1.out, f2.out, hws, ← hdq]; simp
                subst hn
                clear hnm hws hyb hQ hRe HY hdq hy0
                go_wp2_with fail
                refine (hNb _).mono ?_
                rintro e w3 ⟨rfl, k3⟩
                go_wp2_with fail
                go_ret
                exact ⟨by rw [HE.out]; rfl, KR.out.trans k3⟩
end Go.Proofs.YtpdjpjkieafnbaaGreatDoor.Li
