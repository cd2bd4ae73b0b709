import Derived.Test.YtpdjpjkieafnbaaGreatDoorSH4
import Derived.Test.YtpdjpjkieafnbaaGreatDoorNX4
import Derived.Test.YtpdjpjkieafnbaaGreatDoorH1
import Derived.Test.YtpdjpjkieafnbaaGreatDoorSH8
set_option linter.unusedVariables false
set_option linter.unusedSimpArgs false
namespace Go.Proofs.YtpdjpjkieafnbaaGreatDoor.Li.Nw
open Go.RowKit Lb Nr
/-- The lower border's quarters. -/
def bDn (m : Nat) (e : Int) : Nat := 4 * m - 2 + (if m = 8388608 ∧ -149 < e then 1 else 0)
def bLow (m : Nat) (e t : Int) : Nat := ofQ e t (bDn m e) + (if !ofX e t (bDn m e) || !decide (m % 2 = 0) then 1 else 0)
def bHi (m : Nat) (e t : Int) : Nat := ofQ e t (4 * m + 2) - (if ofX e t (4 * m + 2) && !decide (m % 2 = 0) then 1 else 0)
set_option maxRecDepth 100000 in
set_option maxHeartbeats 1000000 in
theorem borders_any (m : Nat) (e t : Int) (u1 u2 : Value) (w : World) (h1 : Lv w u1 (sNum e t) 2101) (h2 : Lv w u2 (sDen e t) 2101) (hm0 : 0 < m) (hm : m < 16777216) (he : -149 ≤ e ∧ e ≤ 104) (hq : ofQ e t (4 * m + 2) < 9223372036854775808) (hq1 : 0 < ofQ e t (4 * m + 2)) (hq2 : ofQ e t (bDn m e) ≤ ofQ e t (4 * m + 2)) :
    Calls Tryz.prog 143 #[.agg #[.int .i64 23, .int .i64 255, .int .i64 (-149)], .int .u64 (m : Int), .int .i64 e, .agg #[u1, u2]] w fun r w' => r = .returned (.tuple #[.int .u64 (bLow m e t : Nat), .int .u64 (bHi m e t : Nat)]) ∧ Keep w w' := by
  have hO1 := fun wx (k : Keep w wx) => of_sc e t (bDn m e) u1 u2 wx (h1.keep k) (h2.keep k) (by unfold bDn; split <;> omega) (by unfold bDn; split <;> omega) (by omega)
  have hO2 := fun wx (k : Keep w wx) => of_sc e t (4 * m + 2) u1 u2 wx (h1.keep k) (h2.keep k) (by omega) (by omega) (by omega)
  obtain ⟨a1, l1, c1, rfl⟩ := h1.shape
  obtain ⟨a2, l2, c2, rfl⟩ := h2.shape
  have hLo : Hid (bLow m e t = ofQ e t (bDn m e) + (if !ofX e t (bDn m e) || !decide (m % 2 = 0) then 1 else 0)) := rfl
  have hHi : Hid (bHi m e t = ofQ e t (4 * m + 2) - (if ofX e t (4 * m + 2) && !decide (m % 2 = 0) then 1 else 0)) := rfl
  have hDn : bDn m e = 4 * m - 2 + (if m = 8388608 ∧ -149 < e then 1 else 0) := rfl
  generalize bLow m e t = BL at *
  generalize bHi m e t = BH at *
  generalize bDn m e = dn at *
  generalize ofQ e t dn = qa at *
  generalize ofX e t dn = xa at *
  generalize ofQ e t (4 * m + 2) = qb at *
  generalize ofX e t (4 * m + 2) = xb at *
  obtain ⟨ev, hev⟩ : ∃ b, decide (m % 2 = 0) = b := ⟨_, rfl⟩
  rw [hev] at hLo hHi
  have hevI : ((((m % 2 : Nat) : Int)) == 0) = ev := by
    rw [← hev]
    by_cases c : m % 2 = 0
    · rw [c]; rfl
    · rw [decide_eq_false c, beq_eq_false_iff_ne]; omega
  have hrem : Int.tmod (m : Int) 2 = ((m % 2 : Nat) : Int) := by rw [Int.ofNat_tmod]; rfl
  generalize m % 2 = r2 at *
  have hw1 : IntKind.u64.wrap (4 * (m : Int)) = ((4 * m : Nat) : Int) := by rw [IntKind.wrap_u64]; omega
  have hw2 : IntKind.u64.wrap (((4 * m : Nat) : Int) - 2) = ((4 * m - 2 : Nat) : Int) := by rw [IntKind.wrap_u64]; omega
  have hw3 : IntKind.u64.wrap (((4 * m : Nat) : Int) + 2) = ((4 * m + 2 : Nat) : Int) := by rw [IntKind.wrap_u64]; omega
  have hw4 : IntKind.u64.wrap (((4 * m - 2 : Nat) : Int) + 1) = ((4 * m - 2 + 1 : Nat) : Int) := by rw [IntKind.wrap_u64]; omega
  have hw5 : IntKind.u64.wrap ((qa : Int) + 1) = ((qa + 1 : Nat) : Int) := by rw [IntKind.wrap_u64]; omega
  have hw6 : IntKind.u64.wrap ((qb : Int) - 1) = ((qb - 1 : Nat) : Int) := by rw [IntKind.wrap_u64]; omega
  have HL : Hid (BL = if (!xa || !ev) = true then qa + 1 else qa) := by unfold Hid; rw [hLo.out]; split <;> rfl
  have HH : Hid (BH = if (xb && !ev) = true then qb - 1 else qb) := by unfold Hid; rw [hHi.out]; split <;> rfl
  replace hDn : dn = if m = 8388608 ∧ -149 < e then 4 * m - 2 + 1 else 4 * m - 2 := by rw [hDn]; split <;> rfl
  generalize qa + 1 = qa1 at *
  generalize qb - 1 = qb1 at *
  generalize 4 * m + 2 = y at *
  generalize 4 * m - 2 + 1 = z1 at *
  generalize 4 * m - 2 = z at *
  generalize 4 * m = m4 at *
  clear hLo hHi hq hq1 hq2
  obtain ⟨w1, hw1'⟩ : ∃ w1, (w.alloc (.cells #[.int .i64 23, .int .i64 255, .int .i64 (-149)] 85)).alloc (.cells #[.slice a1 l1 c1, .slice a2 l2 c2] 173) = w1 := ⟨_, rfl⟩
  have k1 : Keep w w1 := by rw [← hw1']; exact ((Keep.refl w).alloc _).alloc _
  have F1 : Fm w1 w.heap.size := by rw [← hw1']; exact (Fm.new w).keep ((Keep.refl _).alloc _)
  have S1 : Sc w1 (w.heap.size + 1) (.slice a1 l1 c1) (.slice a2 l2 c2) := by
    rw [← hw1']
    have := Sc.new (w.alloc (.cells #[.int .i64 23, .int .i64 255, .int .i64 (-149)] 85)) (.slice a1 l1 c1) (.slice a2 l2 c2)
    rw [show (w.alloc (.cells #[.int .i64 23, .int .i64 255, .int .i64 (-149)] 85)).heap.size = w.heap.size + 1 by simp] at this
    exact this
  obtain ⟨f0, f1, f2⟩ := F1.cells
  obtain ⟨s0, s1, -, -⟩ := S1.cells
  have HS1 : Hid (Sc w1 (w.heap.size + 1) (.slice a1 l1 c1) (.slice a2 l2 c2)) := S1
  have HK1 : Hid (Keep w w1) := k1
  have HO1 : Hid (∀ wx, Keep w wx → Calls Tryz.prog 144 #[.agg #[.slice a1 l1 c1, .slice a2 l2 c2], .int .u64 (dn : Int)] wx fun r w' => r = .returned (.tuple #[.int .u64 (qa : Int), .bool xa]) ∧ Keep wx w') := hO1
  have HO2 : Hid (∀ wx, Keep w wx → Calls Tryz.prog 144 #[.agg #[.slice a1 l1 c1, .slice a2 l2 c2], .int .u64 (y : Int)] wx fun r w' => r = .returned (.tuple #[.int .u64 (qb : Int), .bool xb]) ∧ Keep wx w') := hO2
  clear F1 S1 k1 h1 h2 hO1 hO2 hev
  by_cases p1 : m = 8388608
  · have b1 : ((m : Int) == 8388608) = true := by rw [p1]; rfl
    by_cases p2 : -149 < e
    · have b2 : decide ((-149 : Int) < e) = true := decide_eq_true p2
      rw [if_pos ⟨p1, p2⟩] at hDn
      clear p1
      subst hDn
      clear hm hm0 he
      go_enter Tryz.func143, Tryz.ntmps143
      go_wp2_with fail
      refine (HO1.out _ HK1.out).mono ?_
      rintro r w2 ⟨rfl, k2⟩
      obtain ⟨r0, r1, -, -⟩ := (HS1.out.keep k2).cells
      have HK2 : Hid (Keep w w2) := HK1.out.trans k2
      clear k2
      go_wp2_with fail
      refine (HO2.out _ HK2.out).mono ?_
      rintro r w3 ⟨rfl, k3⟩
      have HK3 : Hid (Keep w w3) := HK2.out.trans k3
      clear k3
      cases xa <;> cases ev <;> cases xb <;> (go_wp2_with fail; go_ret2; exact ⟨by rw [HL.out, HH.out]; rfl, HK3.out⟩)
    · have b2 : decide ((-149 : Int) < e) = false := decide_eq_false p2
      rw [if_neg (fun q => p2 q.2)] at hDn
      clear p1
      subst hDn
      clear hm hm0 he
      go_enter Tryz.func143, Tryz.ntmps143
      go_wp2_with fail
      refine (HO1.out _ HK1.out).mono ?_
      rintro r w2 ⟨rfl, k2⟩
      obtain ⟨r0, r1, -, -⟩ := (HS1.out.keep k2).cells
      have HK2 : Hid (Keep w w2) := HK1.out.trans k2
      clear k2
      go_wp2_with fail
      refine (HO2.out _ HK2.out).mono ?_
      rintro r w3 ⟨rfl, k3⟩
      have HK3 : Hid (Keep w w3) := HK2.out.trans k3
      clear k3
      cases xa <;> cases ev <;> cases xb <;> (go_wp2_with fail; go_ret2; exact ⟨by rw [HL.out, HH.out]; rfl, HK3.out⟩)
  · have b1 : ((m : Int) == 8388608) = false := by rw [beq_eq_false_iff_ne]; omega
    rw [if_neg (fun q => p1 q.1)] at hDn
    subst hDn
    clear hm hm0 he
    go_enter Tryz.func143, Tryz.ntmps143
    go_wp2_with fail
    refine (HO1.out _ HK1.out).mono ?_
    rintro r w2 ⟨rfl, k2⟩
    obtain ⟨r0, r1, -, -⟩ := (HS1.out.keep k2).cells
    have HK2 : Hid (Keep w w2) := HK1.out.trans k2
    clear k2
    go_wp2_with fail
    refine (HO2.out _ HK2.out).mono ?_
    rintro r w3 ⟨rfl, k3⟩
    have HK3 : Hid (Keep w w3) := HK2.out.trans k3
    clear k3
    cases xa <;> cases ev <;> cases xb <;> (go_wp2_with fail; go_ret2; exact ⟨by rw [HL.out, HH.out]; rfl, HK3.out⟩)
end Go.Proofs.YtpdjpjkieafnbaaGreatDoor.Li.Nw
set_option linter.unusedVariables false
set_option linter.unusedSimpArgs false
namespace Go.Proofs.YtpdjpjkieafnbaaGreatDoor.Li.Nw
open Go.RowKit Lb Nr
def fwK (m : Nat) (e : Int) : Nat := unK (bLow m e (tnF m e)) (bHi m e (tnF m e)) 18
def fwB (m : Nat) (e : Int) : Nat := ofQ e (tnF m e) (8 * m) / 2 / 10 ^ fwK m e
def fwD (m : Nat) (e : Int) : Nat := if goU (fwB m e) (10 ^ fwK m e) (ofQ e (tnF m e) (8 * m) - 2 * fwB m e * 10 ^ fwK m e) (ofX e (tnF m e) (8 * m)) (bLow m e (tnF m e)) (bHi m e (tnF m e)) then fwB m e + 1 else fwB m e
set_option maxRecDepth 100000 in
set_option maxHeartbeats 2000000 in
theorem fewest_any (m : Nat) (e : Int) (w : World) (hm0 : 0 < m) (hm : m < 16777216) (he : -149 ≤ e ∧ e ≤ 104) (hbl : Lib.bitLen m ≤ 64) (hT : -16000 ≤ tnF m e ∧ tnF m e ≤ 16000) (hq : ofQ e (tnF m e) (4 * m + 2) < 9223372036854775808) (hq1 : 0 < ofQ e (tnF m e) (4 * m + 2)) (hq2 : ofQ e (tnF m e) (bDn m e) ≤ ofQ e (tnF m e) (4 * m + 2)) (hq8 : ofQ e (tnF m e) (8 * m) < 9223372036854775808) :
    Calls Tryz.prog 99 #[.agg #[.int .i64 23, .int .i64 255, .int .i64 (-149)], .int .u64 (m : Int), .int .i64 e] w fun r w' => r = .returned (.tuple #[.int .u64 (fwD m e : Nat), .int .i64 ((fwK m e : Int) - tnF m e)]) ∧ Keep w w' := by
  have hL := fun wx => Tryz.bits_Len64 (m : Int) wx (by omega) (by omega)
  rw [Int.toNat_natCast] at hL
  have hTe : 17 - ((Lib.bitLen m : Int) + e - 1) * 78913 / 262144 = tnF m e := rfl
  have hN := fun wx => newScale_any e (tnF m e) wx (by omega) hT
  have hB := fun u1 u2 wx h1 h2 => borders_any m e (tnF m e) u1 u2 wx h1 h2 hm0 hm he hq hq1 hq2
  have hO := fun u1 u2 wx h1 h2 => of_sc e (tnF m e) (8 * m) u1 u2 wx h1 h2 (by omega) (by omega) (by omega)
  have hK18 : fwK m e ≤ 18 := unK_le _ _ _
  have hDe : Hid (fwD m e = if goU (fwB m e) (10 ^ fwK m e) (ofQ e (tnF m e) (8 * m) - 2 * fwB m e * 10 ^ fwK m e) (ofX e (tnF m e) (8 * m)) (bLow m e (tnF m e)) (bHi m e (tnF m e)) then fwB m e + 1 else fwB m e) := rfl
  have hBe : fwB m e = ofQ e (tnF m e) (8 * m) / 2 / 10 ^ fwK m e := rfl
  have hKe : Hid (unK (bLow m e (tnF m e)) (bHi m e (tnF m e)) 18 = fwK m e) := rfl
  have hhi : bHi m e (tnF m e) ≤ ofQ e (tnF m e) (4 * m + 2) := Nat.sub_le _ _
  generalize fwD m e = DD at *
  generalize fwB m e = BB at *
  generalize fwK m e = KK at *
  generalize hsn : sNum e (tnF m e) = SN at *
  generalize hsd : sDen e (tnF m e) = SD at *
  generalize bLow m e (tnF m e) = lo at *
  generalize bHi m e (tnF m e) = hi at *
  generalize ofX e (tnF m e) (8 * m) = x8 at *
  generalize ofQ e (tnF m e) (8 * m) = q8 at *
  generalize ofQ e (tnF m e) (4 * m + 2) = q4 at *
  generalize tnF m e = T at *
  generalize Lib.bitLen m = bl at *
  have hlt : hi < 9223372036854775808 := by omega
  clear hsn hsd hq hq1 hq2 hhi
  obtain ⟨w1, hw1⟩ : ∃ w1, w.alloc (.cells #[.int .i64 23, .int .i64 255, .int .i64 (-149)] 85) = w1 := ⟨_, rfl⟩
  have k1 : Keep w w1 := by rw [← hw1]; exact (Keep.refl w).alloc _
  have F1 : Fm w1 w.heap.size := by rw [← hw1]; exact Fm.new w
  have hw8 : IntKind.u64.wrap (8 * (m : Int)) = ((8 * m : Nat) : Int) := by rw [IntKind.wrap_u64]; omega
  generalize 8 * m = m8 at *
  have h18 : ((10 ^ 18 : Nat) : Int) = 1000000000000000000 := by decide
  replace h18 : Hid _ := h18
  go_enter Tryz.func99, Tryz.ntmps99
  go_wp2_with fail
  refine (hL _).mono ?_
  rintro r wz ⟨rfl, hwz⟩
  rw [hwz]
  clear hwz hL
  go_wp2_with fail
  refine (hN _).mono ?_
  rintro r w2 ⟨u1, u2, rfl, hu1, hu2, k2⟩
  obtain ⟨a1, l1, c1, rfl⟩ := hu1.shape
  obtain ⟨a2, l2, c2, rfl⟩ := hu2.shape
  obtain ⟨w3, hw3⟩ : ∃ w3, w2.alloc (.cells #[.slice a1 l1 c1, .slice a2 l2 c2] 173) = w3 := ⟨_, rfl⟩
  have k3 : Keep w2 w3 := by rw [← hw3]; exact (Keep.refl w2).alloc _
  have S3 : Sc w3 w2.heap.size (.slice a1 l1 c1) (.slice a2 l2 c2) := by rw [← hw3]; exact Sc.new w2 _ _
  have F3 := (F1.keep k2).keep k3
  obtain ⟨f0, f1, f2⟩ := F3.cells
  obtain ⟨s0, s1, -, -⟩ := S3.cells
  have HU1 : Hid (Lv w3 (.slice a1 l1 c1) SN 2101) := hu1.keep k3
  have HU2 : Hid (Lv w3 (.slice a2 l2 c2) SD 2101) := hu2.keep k3
  have HS3 : Hid (Sc w3 w2.heap.size (.slice a1 l1 c1) (.slice a2 l2 c2)) := S3
  have HK3 : Hid (Keep w w3) := (k1.trans k2).trans k3
  clear F1 F3 S3 hu1 hu2 k1 k2 k3 hN
  go_wp2_with fail
  refine (hB _ _ _ HU1.out HU2.out).mono ?_
  rintro r w4 ⟨rfl, k4⟩
  obtain ⟨r0, r1, -, -⟩ := (HS3.out.keep k4).cells
  have HU1' : Hid (Lv w4 (.slice a1 l1 c1) SN 2101) := HU1.out.keep k4
  have HU2' : Hid (Lv w4 (.slice a2 l2 c2) SD 2101) := HU2.out.keep k4
  have HK4 : Hid (Keep w w4) := HK3.out.trans k4
  have HO : Hid (∀ u1 u2 wx, Lv wx u1 SN 2101 → Lv wx u2 SD 2101 → Calls Tryz.prog 144 #[.agg #[u1, u2], .int .u64 (m8 : Int)] wx fun r w' => r = .returned (.tuple #[.int .u64 (q8 : Int), .bool x8]) ∧ Keep wx w') := hO
  clear hB k4 hO
  go_wp2_with fail
  go_loopg [12, 13] (18) (fun g v12 v13 wx => g ≤ 18 ∧ v12 = .int .u64 ((10 ^ g : Nat) : Int) ∧ v13 = .int .i64 (g : Int) ∧ Hid (unK lo hi g = KK) ∧ wx = w4)
  case atStart => exact ⟨Nat.le_refl _, congrArg (Value.int .u64) h18.out.symm, rfl, hKe, rfl⟩
  case round =>
    obtain ⟨hg18, rfl, rfl, hu, rfl⟩ := hrel
    obtain ⟨hU0, hU1⟩ := ten_le hg18
    have hexit : gk = KK → Hid (BB = q8 / 2 / 10 ^ gk ∧ DD = if goU BB (10 ^ gk) (q8 - 2 * BB * 10 ^ gk) x8 lo hi = true then BB + 1 else BB) := by
      intro q
      rw [q]
      exact ⟨hBe, hDe.out⟩
    clear hBe hDe hKe
    cases gk with
    | zero =>
      have hz : (0 : Nat) = KK := hu.out
      have HX := hexit hz
      have HZ : Hid (KK = 0) := hz.symm
      subst hz
      obtain ⟨U, hU⟩ : ∃ U, 10 ^ 0 = U := ⟨_, rfl⟩
      rw [hU] at HX hU0 hU1
      have hU1' : U = 1 := by rw [← hU]
      rw [hU]
      clear hexit hu
      have c1 : decide (1 < U) = false := decide_eq_false (by omega)
      have c1p : ¬ (1 : Int) < (U : Int) := by omega
      have c1n : ¬ 1 < U := by omega
      clear hU hU1'
      obtain ⟨hBq, hDq⟩ := HX.out
      have hBU : BB * U ≤ q8 / 2 := by rw [hBq]; exact Nat.div_mul_le_self _ _
      have hBU1 : (BB + 1) * U < 18446744073709551616 := by rw [Nat.add_mul, Nat.one_mul]; omega
      have hBs : BB ≤ q8 / 2 := by rw [hBq]; exact Nat.div_le_self _ _
      have g1 : (q8 : Int) / 2 = ((q8 / 2 : Nat) : Int) := by omega
      have g2 : IntKind.u64.wrap (((q8 / 2 : Nat) : Int) / (U : Int)) = (BB : Int) := by
        rw [show ((q8 / 2 : Nat) : Int) / (U : Int) = ((q8 / 2 / U : Nat) : Int) by simp, ← hBq, IntKind.wrap_u64]
        omega
      have gz : True := trivial
      have g3 : IntKind.u64.wrap (2 * (BB : Int)) = ((2 * BB : Nat) : Int) := by rw [IntKind.wrap_u64]; omega
      have g4 : IntKind.u64.wrap (((2 * BB : Nat) : Int) * (U : Int)) = ((2 * BB * U : Nat) : Int) := by
        rw [show ((2 * BB : Nat) : Int) * (U : Int) = ((2 * BB * U : Nat) : Int) by simp, IntKind.wrap_u64]
        have : 2 * BB * U ≤ q8 := by rw [Nat.mul_assoc]; omega
        omega
      have g5 : IntKind.u64.wrap ((q8 : Int) - ((2 * BB * U : Nat) : Int)) = ((q8 - 2 * BB * U : Nat) : Int) := by
        rw [IntKind.wrap_u64]
        have : 2 * BB * U ≤ q8 := by rw [Nat.mul_assoc]; omega
        omega
      have hG := fun wx => goesUp_any BB U (q8 - 2 * BB * U) x8 lo hi wx hBU1 (by omega)
      have g6 : IntKind.u64.wrap ((BB : Int) + 1) = ((BB + 1 : Nat) : Int) := by rw [IntKind.wrap_u64]; omega
      have HD2 : Hid (DD = if goU BB U (q8 - 2 * BB * U) x8 lo hi = true then BB + 1 else BB) := hDq
      generalize goU BB U (q8 - 2 * BB * U) x8 lo hi = gu at *
      generalize q8 - 2 * BB * U = tw at *
      generalize 2 * BB * U = z at *
      generalize 2 * BB = z2 at *
      generalize BB + 1 = BB1 at *
      generalize hq2 : q8 / 2 = qh at *
      clear hBU hBU1 hBs hDq hBq HX hq2
      go_wp2_with fail
      refine (HO.out _ _ _ HU1'.out HU2'.out).mono ?_
      rintro r w5 ⟨rfl, k5⟩
      have HK5 : Hid (Keep w w5) := HK4.out.trans k5
      clear k5
      go_wp2_with fail
      refine (hG _).mono ?_
      rintro r w6 ⟨rfl, rfl⟩
      have HT0 : Hid ((((0 : Nat) : Int) - T) = -T) := by unfold Hid; omega
      cases gu with
      | true =>
        have HDD : Hid (DD = BB1) := by unfold Hid; rw [HD2.out, if_pos rfl]
        go_wp2_with fail
        go_ret2
        exact ⟨by rw [HDD.out, HT0.out]; rfl, HK5.out⟩
      | false =>
        have HDD : Hid (DD = BB) := by unfold Hid; rw [HD2.out, if_neg (by simp)]
        go_wp2_with fail
        go_ret2
        exact ⟨by rw [HDD.out, HT0.out]; rfl, HK5.out⟩
    | succ j =>
      have hne : 1 < 10 ^ (j + 1) := Nat.one_lt_pow (by omega) (by omega)
      have hdv : 10 ^ (j + 1) / 10 = 10 ^ j := by rw [Nat.pow_succ]; exact Nat.mul_div_cancel _ (by omega)
      have hst : unK lo hi (j + 1) = if hi / 10 ^ (j + 1) * 10 ^ (j + 1) < lo then unK lo hi j else j + 1 := rfl
      rw [hu.out] at hst
      have hmul : hi / 10 ^ (j + 1) * 10 ^ (j + 1) ≤ hi := Nat.div_mul_le_self _ _
      obtain ⟨U, hU⟩ : ∃ U, 10 ^ (j + 1) = U := ⟨_, rfl⟩
      rw [hU] at hexit hU0 hU1 hne hdv hst hmul
      rw [hU]
      have c1 : decide (1 < U) = true := decide_eq_true hne
      have c1p : (1 : Int) < (U : Int) := by omega
      have m1 : IntKind.u64.wrap ((hi : Int) / (U : Int)) = ((hi / U : Nat) : Int) := by
        rw [show (hi : Int) / (U : Int) = ((hi / U : Nat) : Int) by simp]
        have hle := Nat.div_le_self hi U
        obtain ⟨p, hp⟩ : ∃ p, hi / U = p := ⟨_, rfl⟩
        rw [hp] at hle ⊢
        rw [IntKind.wrap_u64]
        omega
      have m2 : IntKind.u64.wrap (((hi / U : Nat) : Int) * (U : Int)) = ((hi / U * U : Nat) : Int) := by
        rw [show ((hi / U : Nat) : Int) * (U : Int) = ((hi / U * U : Nat) : Int) by simp]
        obtain ⟨p, hp⟩ : ∃ p, hi / U * U = p := ⟨_, rfl⟩
        rw [hp] at hmul ⊢
        rw [IntKind.wrap_u64]
        omega
      generalize hi / U * U = hu2 at *
      generalize hi / U = hu1 at *
      clear hU
      by_cases c2 : hu2 < lo
      · rw [if_pos c2] at hst
        have c3 : decide (hu2 < lo) = true := decide_eq_true c2
        have m3 : (U : Int) / 10 = ((10 ^ j : Nat) : Int) := by rw [← hdv]; simp
        have m4 : (10 ^ j : Nat) < 18446744073709551616 := by rw [← hdv]; omega
        have m5 : IntKind.u64.wrap ((10 ^ j : Nat) : Int) = ((10 ^ j : Nat) : Int) := by rw [IntKind.wrap_u64]; omega
        have HV : Hid (∀ V : Nat, 10 ^ j = V → Value.int .u64 (V : Int) = Value.int .u64 ((10 ^ j : Nat) : Int)) := fun V h => by rw [h]
        have HST : Hid (unK lo hi j = KK) := hst.symm
        have hj18 : j ≤ 18 := by omega
        obtain ⟨V, hV⟩ : ∃ V, 10 ^ j = V := ⟨_, rfl⟩
        rw [hV] at m3 m4 m5
        have HV2 := HV.out V hV
        replace HV2 : Hid _ := HV2
        clear hV HV
        clear hexit hst hdv hu
        go_wp2_with fail
        go_roundg (j)
        case measure => omega
        case rel => exact ⟨hj18, HV2.out, rfl, HST, rfl⟩
      · rw [if_neg c2] at hst
        have c3 : decide (hu2 < lo) = false := decide_eq_false c2
        have HX := hexit hst.symm
        clear hexit hu hdv
        subst hst
        obtain ⟨hBq, hDq⟩ := HX.out
        have hBU : BB * U ≤ q8 / 2 := by rw [hBq]; exact Nat.div_mul_le_self _ _
        have hBU1 : (BB + 1) * U < 18446744073709551616 := by rw [Nat.add_mul, Nat.one_mul]; omega
        have hBs : BB ≤ q8 / 2 := by rw [hBq]; exact Nat.div_le_self _ _
        have g1 : (q8 : Int) / 2 = ((q8 / 2 : Nat) : Int) := by omega
        have g2 : IntKind.u64.wrap (((q8 / 2 : Nat) : Int) / (U : Int)) = (BB : Int) := by
          rw [show ((q8 / 2 : Nat) : Int) / (U : Int) = ((q8 / 2 / U : Nat) : Int) by simp, ← hBq, IntKind.wrap_u64]
          omega
        have gz : True := trivial
        have g3 : IntKind.u64.wrap (2 * (BB : Int)) = ((2 * BB : Nat) : Int) := by rw [IntKind.wrap_u64]; omega
        have g4 : IntKind.u64.wrap (((2 * BB : Nat) : Int) * (U : Int)) = ((2 * BB * U : Nat) : Int) := by
          rw [show ((2 * BB : Nat) : Int) * (U : Int) = ((2 * BB * U : Nat) : Int) by simp, IntKind.wrap_u64]
          have : 2 * BB * U ≤ q8 := by rw [Nat.mul_assoc]; omega
          omega
        have g5 : IntKind.u64.wrap ((q8 : Int) - ((2 * BB * U : Nat) : Int)) = ((q8 - 2 * BB * U : Nat) : Int) := by
          rw [IntKind.wrap_u64]
          have : 2 * BB * U ≤ q8 := by rw [Nat.mul_assoc]; omega
          omega
        have hG := fun wx => goesUp_any BB U (q8 - 2 * BB * U) x8 lo hi wx hBU1 (by omega)
        have g6 : IntKind.u64.wrap ((BB : Int) + 1) = ((BB + 1 : Nat) : Int) := by rw [IntKind.wrap_u64]; omega
        have HD2 : Hid (DD = if goU BB U (q8 - 2 * BB * U) x8 lo hi = true then BB + 1 else BB) := hDq
        generalize goU BB U (q8 - 2 * BB * U) x8 lo hi = gu at *
        generalize q8 - 2 * BB * U = tw at *
        generalize 2 * BB * U = z at *
        generalize 2 * BB = z2 at *
        generalize BB + 1 = BB1 at *
        generalize hq2 : q8 / 2 = qh at *
        clear hBU hBU1 hBs hDq hBq HX hq2
        go_wp2_with fail
        refine (HO.out _ _ _ HU1'.out HU2'.out).mono ?_
        rintro r w5 ⟨rfl, k5⟩
        have HK5 : Hid (Keep w w5) := HK4.out.trans k5
        clear k5
        go_wp2_with fail
        refine (hG _).mono ?_
        rintro r w6 ⟨rfl, rfl⟩
        have HT0 : Hid ((((j + 1 : Nat) : Int) - T) = (j : Int) + 1 - T) := by unfold Hid; omega
        cases gu with
        | true =>
          have HDD : Hid (DD = BB1) := by unfold Hid; rw [HD2.out, if_pos rfl]
          go_wp2_with fail
          go_ret2
          exact ⟨by rw [HDD.out, HT0.out]; rfl, HK5.out⟩
        | false =>
          have HDD : Hid (DD = BB) := by unfold Hid; rw [HD2.out, if_neg (by simp)]
          go_wp2_with fail
          go_ret2
          exact ⟨by rw [HDD.out, HT0.out]; rfl, HK5.out⟩
end Go.Proofs.YtpdjpjkieafnbaaGreatDoor.Li.Nw
set_option linter.unusedVariables false
set_option linter.unusedSimpArgs false
namespace Go.Proofs.YtpdjpjkieafnbaaGreatDoor.Li.Nw
open Go.RowKit Lb Nr
/-- The parts of a binary32's bits. -/
def pKept (b : Nat) : Nat := b % 8388608
def pField (b : Nat) : Nat := b / 8388608 % 256
def pNeg (b : Nat) : Bool := decide (2147483648 ≤ b)
def pM (b : Nat) : Nat := if 0 < pField b ∧ pField b < 255 then 8388608 + pKept b else pKept b
def pE (b : Nat) : Int := if pField b = 255 then 0 else if 0 < pField b then -149 + (pField b : Int) - 1 else if 0 < pKept b then -149 else 0
def pKind (b : Nat) : Nat := if pField b = 255 then (if pKept b = 0 then 3 else 4) else if 0 < pField b then 2 else if 0 < pKept b then 1 else 0
theorem and52 (b : Nat) (hb : b < 4294967296) : bits .and .u64 (b : Int) 8388607 = ((pKept b : Nat) : Int) := by
  have := u64_and_nat b 8388607 (by omega) (by omega)
  rw [show b &&& 8388607 = b % 8388608 from Nat.and_two_pow_sub_one_eq_mod b 23] at this
  exact this
theorem and63 (b : Nat) (hb : b < 4294967296) : (bits .and .u64 (b : Int) 2147483648 != 0) = pNeg b := by
  have h := u64_and_nat b 2147483648 (by omega) (by omega)
  have e1 : (b &&& 2147483648) / 2147483648 = b / 2147483648 % 2 := by
    have := Nat.and_div_two_pow (a := b) (b := 2147483648) (n := 31)
    have h2 : b / 2 ^ 31 &&& 2147483648 / 2 ^ 31 = b / 2 ^ 31 % 2 := Nat.and_one_is_mod _
    exact this.trans h2
  have e2 : (b &&& 2147483648) % 2147483648 = 0 := by
    have := Nat.and_mod_two_pow (a := b) (b := 2147483648) (n := 31)
    have h2 : (b % 2 ^ 31) &&& (2147483648 % 2 ^ 31) = 0 := Nat.and_zero _
    exact this.trans h2
  have h' : bits .and .u64 (b : Int) 2147483648 = ((b &&& 2147483648 : Nat) : Int) := h
  rw [h']
  generalize b &&& 2147483648 = y at *
  unfold pNeg
  rw [Bool.eq_iff_iff]
  simp only [bne_iff_ne, ne_eq, decide_eq_true_eq]
  omega
theorem andTop (b : Nat) (hb : b < 4294967296) : bits .and .i64 ((b : Int) / 8388608) 255 = ((pField b : Nat) : Int) := by
  have e : (b : Int) / 8388608 = ((b / 8388608 : Nat) : Int) := by omega
  rw [e]
  show IntKind.i64.wrap ((BitVec.ofInt 64 ((b / 8388608 : Nat) : Int) &&& BitVec.ofInt 64 ((255 : Nat) : Int)).toNat : Int) = _
  rw [BitVec.toNat_and, ofInt_u64 _ (by omega), ofInt_u64 _ (by omega), show b / 8388608 &&& 255 = b / 8388608 % 256 from Nat.and_two_pow_sub_one_eq_mod _ 8, IntWalk.i64_left]
  exact IntWalk.wrap64_in _ (by omega)
theorem or52 (y : Nat) (hy : y < 8388608) : bits .or .u64 8388608 (y : Int) = ((8388608 + y : Nat) : Int) := by
  have h := u64_or_nat 8388608 y (by omega) (by omega)
  have e : 8388608 ||| y = 8388608 + y := (Nat.two_pow_add_eq_or_of_lt (i := 23) hy 1).symm
  rw [e] at h
  exact h
set_option maxRecDepth 100000 in
set_option maxHeartbeats 1000000 in
theorem parts_any (b : Nat) (hb : b < 4294967296) (w : World) :
    Calls Tryz.prog 98 #[.agg #[.int .i64 23, .int .i64 255, .int .i64 (-149)], .int .u64 (b : Nat)] w fun e w' => e = .returned (.tuple #[.bool (pNeg b), .int .u64 (pM b : Nat), .int .i64 (pE b), .int .u8 (pKind b : Nat)]) ∧ Keep w w' := by
  have hS := signBit_any
  obtain ⟨w1, hw1, k0, tb⟩ : ∃ w1, w.alloc (Obj.cells #[Value.int IntKind.i64 23, Value.int IntKind.i64 255, Value.int IntKind.i64 (-149)] 85) = w1 ∧ Keep w w1 ∧ w1.heap[w.heap.size]? = some (Obj.cells #[Value.int IntKind.i64 23, Value.int IntKind.i64 255, Value.int IntKind.i64 (-149)] 85 (0, 0)) := ⟨_, rfl, (Keep.refl w).alloc _, heap_alloc_new w _⟩
  have b0 := cell_of_row _ _ 0 _ 85 (0, 0) tb
  have b1 := cell_of_row _ _ 1 _ 85 (0, 0) tb
  have b2 := cell_of_row _ _ 2 _ 85 (0, 0) tb
  simp only [List.getElem?_toArray, List.getElem?_cons_zero, List.getElem?_cons_succ] at b0 b1 b2
  replace hw1 : Hid _ := hw1
  clear tb
  go_enter Tryz.func98, Tryz.ntmps98
  go_wp2_with fail
  rw [hw1.out]
  refine (hS _).mono ?_
  rintro e w2 ⟨rfl, k2⟩
  have b0 := k2.cell b0
  have b1 := k2.cell b1
  have b2 := k2.cell b2
  have h52 := and52 b hb
  have h63 := and63 b hb
  have hTp := andTop b hb
  have ho := or52 (pKept b) (Nat.mod_lt _ (by omega))
  have hkl : pKept b < 8388608 := Nat.mod_lt _ (by omega)
  have hfl : pField b < 256 := Nat.mod_lt _ (by omega)
  have HM : Hid (pM b = if 0 < pField b ∧ pField b < 255 then 8388608 + pKept b else pKept b) := rfl
  have HE : Hid (pE b = if pField b = 255 then 0 else if 0 < pField b then -149 + (pField b : Int) - 1 else if 0 < pKept b then -149 else 0) := rfl
  have HK : Hid (pKind b = if pField b = 255 then (if pKept b = 0 then 3 else 4) else if 0 < pField b then 2 else if 0 < pKept b then 1 else 0) := rfl
  replace HM : Hid _ := HM
  have EN : Hid (∃ n, pNeg b = n) := ⟨_, rfl⟩
  generalize hng : pNeg b = ng at h63
  replace hng : Hid _ := hng
  generalize pField b = f at *
  generalize pKept b = kp at *
  by_cases h1 : f = 255
  · by_cases h2 : kp = 0
    · have eM : Hid (pM b = 0) := by show _ = _; rw [HM.out, h1, h2]; rfl
      have eE : Hid (pE b = 0) := by show _ = _; rw [HE.out, h1]; rfl
      have eK : Hid (pKind b = 3) := by show _ = _; rw [HK.out, h1, h2]; rfl
      subst h1 h2
      clear HM HE HK
      go_wp2_with fail
      go_quiet (fail)
      go_simp
      go_wp2_with fail
      try simp only [Exit.inBlock, Exit.then]
      refine bodyPost_ret (results_tmp4 rfl _ _ _) rfl ?_
      rw [hng.out, eM.out, eE.out, eK.out]
      refine ⟨?_, by first | exact (k0.trans k2).drewN _ | exact ((k0.trans k2).drewN _).drewN _⟩
      first | rfl | (congr 2; simp; omega) | simp
    · have eM : Hid (pM b = kp) := by show _ = _; rw [HM.out, h1]; rfl
      have eE : Hid (pE b = 0) := by show _ = _; rw [HE.out, h1]; rfl
      have eK : Hid (pKind b = 4) := by show _ = _; rw [HK.out, h1, if_pos rfl, if_neg h2]
      have h3 : ((kp : Int) == 0) = false := by rw [beq_eq_false_iff_ne]; omega
      subst h1
      clear HM HE HK
      go_wp2_with fail
      go_quiet (fail)
      go_simp
      go_wp2_with fail
      try simp only [Exit.inBlock, Exit.then]
      refine bodyPost_ret (results_tmp4 rfl _ _ _) rfl ?_
      rw [hng.out, eM.out, eE.out, eK.out]
      refine ⟨?_, by first | exact (k0.trans k2).drewN _ | exact ((k0.trans k2).drewN _).drewN _⟩
      first | rfl | (congr 2; simp; omega) | simp
  · have h1' : ((f : Int) == 255) = false := by rw [beq_eq_false_iff_ne]; omega
    by_cases h2 : 0 < f
    · have eM : Hid (pM b = 8388608 + kp) := by show _ = _; rw [HM.out, if_pos ⟨h2, by omega⟩]
      have eE : Hid (pE b = -149 + (f : Int) - 1) := by show _ = _; rw [HE.out, if_neg h1, if_pos h2]
      have eK : Hid (pKind b = 2) := by show _ = _; rw [HK.out, if_neg h1, if_pos h2]
      have h2' : (0 : Int) < (f : Int) := by omega
      clear HM HE HK
      go_wp2_with fail
      go_quiet (fail)
      go_simp
      go_wp2_with fail
      go_quiet (fail)
      go_simp
      go_wp2_with fail
      try simp only [Exit.inBlock, Exit.then]
      refine bodyPost_ret (results_tmp4 rfl _ _ _) rfl ?_
      rw [hng.out, eM.out, eE.out, eK.out]
      refine ⟨?_, by first | exact (k0.trans k2).drewN _ | exact ((k0.trans k2).drewN _).drewN _⟩
      first | rfl | (congr 2; simp; omega) | simp
    · have h2' : ¬ (0 : Int) < (f : Int) := by omega
      by_cases h3 : 0 < kp
      · have eM : Hid (pM b = kp) := by show _ = _; rw [HM.out, if_neg (fun h => h2 h.1)]
        have eE : Hid (pE b = -149) := by show _ = _; rw [HE.out, if_neg h1, if_neg h2, if_pos h3]
        have eK : Hid (pKind b = 1) := by show _ = _; rw [HK.out, if_neg h1, if_neg h2, if_pos h3]
        have h3' : (0 : Int) < (kp : Int) := by omega
        clear HM HE HK
        go_wp2_with fail
        go_quiet (fail)
        go_simp
        go_wp2_with fail
        go_quiet (fail)
        go_simp
        go_wp2_with fail
        try simp only [Exit.inBlock, Exit.then]
        refine bodyPost_ret (results_tmp4 rfl _ _ _) rfl ?_
        rw [hng.out, eM.out, eE.out, eK.out]
        refine ⟨?_, by first | exact (k0.trans k2).drewN _ | exact ((k0.trans k2).drewN _).drewN _⟩
        first | rfl | (congr 2; simp; omega) | simp
      · have eM : Hid (pM b = 0) := by show _ = _; rw [HM.out, if_neg (fun h => h2 h.1)]; omega
        have eE : Hid (pE b = 0) := by show _ = _; rw [HE.out, if_neg h1, if_neg h2, if_neg h3]
        have eK : Hid (pKind b = 0) := by show _ = _; rw [HK.out, if_neg h1, if_neg h2, if_neg h3]
        have h3' : ¬ (0 : Int) < (kp : Int) := by omega
        clear HM HE HK
        go_wp2_with fail
        go_quiet (fail)
        go_simp
        go_wp2_with fail
        try simp only [Exit.inBlock, Exit.then]
        refine bodyPost_ret (results_tmp4 rfl _ _ _) rfl ?_
        rw [hng.out, eM.out, eE.out, eK.out]
        refine ⟨?_, by first | exact (k0.trans k2).drewN _ | exact ((k0.trans k2).drewN _).drewN _⟩
        first | rfl | (congr 2; simp; omega) | simp
end Go.Proofs.YtpdjpjkieafnbaaGreatDoor.Li.Nw
set_option linter.unusedVariables false
set_option linter.unusedSimpArgs false
namespace Go.Proofs.YtpdjpjkieafnbaaGreatDoor.Li.Nw
open Go.RowKit Lb Nr
theorem scale_ok {m : Nat} {e : Int} (hm0 : 0 < m) (hm : m < 16777216) (he : -149 ≤ e ∧ e ≤ 104) :
    (-400 ≤ tnF m e ∧ tnF m e ≤ 400) ∧ 99000000000000000 * sDen e (tnF m e) ≤ 4 * m * sNum e (tnF m e) ∧ 4 * m * sNum e (tnF m e) < 2100000000000000000 * sDen e (tnF m e) := Li.scale_ok hm0 (by omega) (by omega)
theorem bDn_le (m : Nat) (e : Int) (h : 0 < m) : bDn m e ≤ 4 * m + 2 := by unfold bDn; split <;> omega
/-- The bounds of what is reckoned with. -/
theorem fw_bounds {m : Nat} {e : Int} (hm0 : 0 < m) (hm : m < 16777216) (he : -149 ≤ e ∧ e ≤ 104) :
    ofQ e (tnF m e) (4 * m + 2) < 3150000000000000000 ∧ 99000000000000000 ≤ ofQ e (tnF m e) (4 * m + 2) ∧ ofQ e (tnF m e) (bDn m e) ≤ ofQ e (tnF m e) (4 * m + 2) ∧ ofQ e (tnF m e) (8 * m) < 4200000000000000000 := by
  obtain ⟨-, a, b⟩ := scale_ok hm0 hm he
  generalize tnF m e = T at *
  refine ⟨ofQ_lt ?_, ofQ_ge ?_, ofQ_mono _ _ (bDn_le m e hm0), ofQ_lt ?_⟩
  · have h1 : (4 * m + 2) * sNum e T ≤ 6 * m * sNum e T := Nat.mul_le_mul_right _ (by omega)
    have e1 : 2 * (6 * m * sNum e T) = 3 * (4 * m * sNum e T) := by rw [← Nat.mul_assoc 2, ← Nat.mul_assoc 3]; congr 1; omega
    omega
  · exact Nat.le_trans a (Nat.mul_le_mul_right _ (by omega))
  · have e1 : 8 * m * sNum e T = 2 * (4 * m * sNum e T) := by rw [← Nat.mul_assoc 2]; congr 1; omega
    omega
theorem fwD_lt {m : Nat} {e : Int} (hm0 : 0 < m) (hm : m < 16777216) (he : -149 ≤ e ∧ e ≤ 104) : fwD m e < 18446744073709551616 ∧ (dD (fwD m e)).length ≤ 20 := by
  obtain ⟨-, -, -, h⟩ := fw_bounds hm0 hm he
  have h1 : fwB m e ≤ ofQ e (tnF m e) (8 * m) := Nat.le_trans (Nat.div_le_self _ _) (Nat.div_le_self _ _)
  have h2 : fwD m e ≤ fwB m e + 1 := by unfold fwD; split <;> omega
  exact ⟨by omega, dD_len 19 _ (by show _ < 100000000000000000000; omega)⟩
/-- What Shortest writes of an amount. -/
def shT (m : Nat) (e : Int) : List UInt8 := loT (dD (fwD m e)) ((fwK m e : Int) - tnF m e)
set_option maxRecDepth 100000 in
set_option maxHeartbeats 1000000 in
theorem shortest_num (b : Nat) (w : World) (hb : b < 4294967296) (hk : pKind b = 1 ∨ pKind b = 2) (hm0 : 0 < pM b) (hm : pM b < 16777216) (he : -149 ≤ pE b ∧ pE b ≤ 104) (htab : Lib.TabIs Tryz.prog w "internal/strconv.uint64pow10" .u64 Lib.pow10Tab) (hT : ∀ wx, Keep w wx → Lib.TabIs Tryz.prog wx "internal/strconv.uint64pow10" .u64 Lib.pow10Tab) :
    Calls Tryz.prog 57 #[.agg #[.int .i64 23, .int .i64 255, .int .i64 (-149)], .int .u64 (b : Int)] w fun e w' => e = .returned (.string ⟨(sgS (pNeg b) (shT (pM b) (pE b))).toArray⟩) ∧ Keep w w' := by
  have hP := fun wx => parts_any b hb wx
  have hkl : pKind b < 4 ∧ pKind b ≤ 4 := by omega
  have hN := fun wx => named_any (pKind b) (by omega) wx
  rw [show nmS (pKind b) = [] by rcases hk with q | q <;> (rw [q]; rfl)] at hN
  obtain ⟨b1, b2, b3, b4⟩ := fw_bounds hm0 hm he
  obtain ⟨t1, -, -⟩ := scale_ok hm0 hm he
  have hbl := (bl_bounds hm0 (by omega)).2.2.2
  have hF := fun wx => fewest_any (pM b) (pE b) wx hm0 hm he hbl (by omega) (by omega) (by omega) b3 (by omega)
  obtain ⟨d1, d2⟩ := fwD_lt hm0 hm he
  have hU := fun wx h => FU_all (fwD (pM b) (pE b)) wx d1 h
  have hK18 : fwK (pM b) (pE b) ≤ 18 := unK_le _ _ _
  have hpb : -1000 ≤ ((fwK (pM b) (pE b) : Int) - tnF (pM b) (pE b)) ∧ ((fwK (pM b) (pE b) : Int) - tnF (pM b) (pE b)) ≤ 1000 := by omega
  have d0 : 1 ≤ (dD (fwD (pM b) (pE b))).length := List.length_pos_iff.2 (dD_ne _)
  have hLy := fun wx h => layOut_any (dD (fwD (pM b) (pE b))) ((fwK (pM b) (pE b) : Int) - tnF (pM b) (pE b)) wx ⟨d0, d2⟩ hpb h
  have hll := loT_len (dD (fwD (pM b) (pE b))) ((fwK (pM b) (pE b) : Int) - tnF (pM b) (pE b)) d2 hpb
  have hS := fun wx => signedF_any (pNeg b) (pKind b) (shT (pM b) (pE b)) (by omega) (by unfold shT; omega) wx
  have hsh : loT (dD (fwD (pM b) (pE b))) ((fwK (pM b) (pE b) : Int) - tnF (pM b) (pE b)) = shT (pM b) (pE b) := rfl
  rw [hsh] at hLy hll
  generalize sgS (pNeg b) (shT (pM b) (pE b)) = RR at *
  generalize shT (pM b) (pE b) = sh at *
  generalize dD (fwD (pM b) (pE b)) = dd at *
  generalize ((fwK (pM b) (pE b) : Int) - tnF (pM b) (pE b)) = pw at *
  generalize fwD (pM b) (pE b) = fd at *
  generalize pNeg b = ng at *
  generalize pKind b = kd at *
  generalize pM b = m at *
  generalize pE b = e at *
  clear b1 b2 b3 b4 t1 hbl d0 d1 d2 hpb hK18 hll hsh hm0 hm he hk hkl
  obtain ⟨w1, hw1⟩ : ∃ w1, w.alloc (.cells #[.int .i64 23, .int .i64 255, .int .i64 (-149)] 85) = w1 := ⟨_, rfl⟩
  have k1 : Keep w w1 := by rw [← hw1]; exact (Keep.refl w).alloc _
  have F1 : Fm w1 w.heap.size := by rw [← hw1]; exact Fm.new w
  obtain ⟨f0, f1, f2⟩ := F1.cells
  have HF1 : Hid (Fm w1 w.heap.size) := F1
  have HT : Hid (∀ wx, Keep w wx → Lib.TabIs Tryz.prog wx "internal/strconv.uint64pow10" .u64 Lib.pow10Tab) := hT
  clear F1 hT htab
  go_enter Tryz.func57, Tryz.ntmps57
  go_wp2_with fail
  refine (hP _).mono ?_
  rintro r w2 ⟨rfl, k2⟩
  obtain ⟨g0, g1, g2⟩ := (HF1.out.keep k2).cells
  have k12 := k1.trans k2
  go_wp2_with fail
  refine (hN _).mono ?_
  rintro r w3 ⟨rfl, rfl⟩
  go_wp2_with fail
  refine (hF _).mono ?_
  rintro r w4 ⟨rfl, k4⟩
  have k14 := k12.trans k4
  go_wp2_with fail
  refine (hU _ (HT.out _ k14)).mono ?_
  rintro r w5 ⟨rfl, k5⟩
  have k15 := k14.trans k5
  go_wp2_with fail
  refine (hLy _ (HT.out _ k15)).mono ?_
  rintro r w6 ⟨rfl, k6⟩
  go_wp2_with fail
  refine (hS _).mono ?_
  rintro r w7 ⟨rfl, rfl⟩
  go_wp2_with fail
  go_ret
  exact ⟨rfl, k15.trans k6⟩
theorem kind_parts {b : Nat} (hk : pKind b = 1 ∨ pKind b = 2) : 0 < pM b ∧ pM b < 16777216 ∧ -149 ≤ pE b ∧ pE b ≤ 104 := by
  unfold pKind at hk
  have h1 : pKept b < 8388608 := Nat.mod_lt _ (by omega)
  have h2 : pField b < 256 := Nat.mod_lt _ (by omega)
  unfold pM pE
  repeat' split at hk
  all_goals (try omega)
  all_goals (refine ⟨?_, ?_, ?_, ?_⟩ <;> repeat' split)
  all_goals omega
end Go.Proofs.YtpdjpjkieafnbaaGreatDoor.Li.Nw
