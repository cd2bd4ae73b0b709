import Derived.Test.YtpdjpjkieafnbaaGreatDoorH3
set_option linter.unusedVariables false
set_option linter.unusedSimpArgs false
namespace Go.Proofs.YtpdjpjkieafnbaaGreatDoor.Li
open Go.RowKit Lb Nr
theorem word_room {x K : Nat} (h : x < 4294967296 ^ 4) (hK : 4 ≤ K) : x < 4294967296 ^ K := Nat.lt_of_lt_of_le h (Nat.pow_le_pow_right (by omega) hK)
/-- The scale of a tenth. -/
theorem of_tenth (u1 u2 : Value) (n Q : Nat) (b : Bool) (w : World) (K : Nat) (hK : 4 ≤ K ∧ K ≤ 35184372000000) (h1 : Lv w u1 10000000000000000000 K) (h2 : Lv w u2 288230376151711744 K) (hn : n < 18446744073709551616) (hQ : n * 10000000000000000000 / 288230376151711744 = Q) (hq : Q < 18446744073709551616) (hb : decide (n * 10000000000000000000 % 288230376151711744 = 0) = b) :
    Calls Tryz.prog 144 #[.agg #[u1, u2], .int .u64 (n : Nat)] w fun e w' => e = .returned (.tuple #[.int .u64 ((Q : Nat) : Int), .bool b]) ∧ Keep w w' := by
  have h := of_any u1 u2 10000000000000000000 288230376151711744 K n w h1 h2 (by omega) (by omega) hn (by rw [hQ]; exact hq) K (by omega) (by omega) (by omega) (word_room (by show _ < 340282366920938463463374607431768211456; omega) (by omega))
  rw [hQ, hb] at h
  exact h
set_option maxRecDepth 100000 in
set_option maxHeartbeats 1000000 in
theorem borders_tenth (u1 u2 : Value) (w : World) (h1 : Lv w u1 10000000000000000000 2101) (h2 : Lv w u2 288230376151711744 2101) :
    Calls Tryz.prog 143 #[.agg #[.int .i64 52, .int .i64 2047, .int .i64 (-1074)], .int .u64 7205759403792794, .int .i64 (-56), .agg #[u1, u2]] w fun e w' => e = .returned (.tuple #[.int .u64 999999999999999987, .int .u64 1000000000000000124]) ∧ Keep w w' := by
  have hO1 := fun wx (k : Keep w wx) => of_tenth u1 u2 28823037615171174 999999999999999986 false wx 2101 (by omega) (h1.keep k) (h2.keep k) (by omega) (by decide +kernel) (by omega) (by decide +kernel)
  have hO2 := fun wx (k : Keep w wx) => of_tenth u1 u2 28823037615171178 1000000000000000124 false wx 2101 (by omega) (h1.keep k) (h2.keep k) (by omega) (by decide +kernel) (by omega) (by decide +kernel)
  obtain ⟨a1, l1, c1, rfl⟩ := h1.shape
  obtain ⟨a2, l2, c2, rfl⟩ := h2.shape
  obtain ⟨w1, hw1⟩ : ∃ w1, (w.alloc (.cells #[.int .i64 52, .int .i64 2047, .int .i64 (-1074)] 85)).alloc (.cells #[.slice a1 l1 c1, .slice a2 l2 c2] 173) = w1 := ⟨_, rfl⟩
  have k1 : Keep w w1 := by rw [← hw1]; exact ((Keep.refl w).alloc _).alloc _
  have F1 : Fm w1 w.heap.size := by rw [← hw1]; exact (Fm.new w).keep ((Keep.refl _).alloc _)
  have S1 : Sc w1 (w.heap.size + 1) (.slice a1 l1 c1) (.slice a2 l2 c2) := by
    rw [← hw1]
    have := Sc.new (w.alloc (.cells #[.int .i64 52, .int .i64 2047, .int .i64 (-1074)] 85)) (.slice a1 l1 c1) (.slice a2 l2 c2)
    rw [show (w.alloc (.cells #[.int .i64 52, .int .i64 2047, .int .i64 (-1074)] 85)).heap.size = w.heap.size + 1 by simp] at this
    exact this
  obtain ⟨f0, f1, f2⟩ := F1.cells
  obtain ⟨s0, s1, -, -⟩ := S1.cells
  have HS1 : Hid (Sc w1 (w.heap.size + 1) (.slice a1 l1 c1) (.slice a2 l2 c2)) := S1
  have HK1 : Hid (Keep w w1) := k1
  clear F1 S1 k1 h1 h2
  have t1 : True := trivial
  go_enter Tryz.func143, Tryz.ntmps143
  go_wp2_with fail
  refine (hO1 _ HK1.out).mono ?_
  rintro e w2 ⟨rfl, k2⟩
  obtain ⟨r0, r1, -, -⟩ := (HS1.out.keep k2).cells
  have HK2 : Hid (Keep w w2) := HK1.out.trans k2
  clear hO1 k2
  go_wp2_with fail
  refine (hO2 _ HK2.out).mono ?_
  rintro e w3 ⟨rfl, k3⟩
  go_wp2_with fail
  go_ret2
  exact ⟨rfl, HK2.out.trans k3⟩
set_option maxRecDepth 100000 in
set_option maxHeartbeats 400000 in
theorem goesUp_tenth (w : World) : Calls Tryz.prog 145 #[.int .u64 1, .int .u64 1000000000000000000, .int .u64 111, .bool false, .int .u64 999999999999999987, .int .u64 1000000000000000124] w fun e w' => e = .returned (.bool false) ∧ w = w' := by
  go_enter Tryz.func145, Tryz.ntmps145
  go_wp2_with fail
  go_ret
  exact ⟨rfl, rfl⟩
set_option maxRecDepth 100000 in
set_option maxHeartbeats 400000 in
theorem layOut_tenth (w : World) : Calls Tryz.prog 100 #[.string ⟨#[49]⟩, .int .i64 (-1)] w fun e w' => e = .returned (.string ⟨#[48, 46, 49]⟩) ∧ Keep w w' := by
  have hR := fun wx => Tryz.strings_Repeat_zero ⟨#[48]⟩ wx
  go_enter Tryz.func100, Tryz.ntmps100
  go_wp2_with fail
  refine (hR _).mono ?_
  rintro e wz ⟨rfl, hwz⟩
  rw [hwz]
  clear hwz
  go_wp2_with fail
  go_ret
  exact ⟨rfl, Keep.refl _⟩
end Go.Proofs.YtpdjpjkieafnbaaGreatDoor.Li
set_option linter.unusedVariables false
set_option linter.unusedSimpArgs false
namespace Go.Proofs.YtpdjpjkieafnbaaGreatDoor.Li
open Go.RowKit Lb Nr
set_option maxRecDepth 100000 in
set_option maxHeartbeats 2000000 in
theorem fewest_tenth (w : World) :
    Calls Tryz.prog 99 #[.agg #[.int .i64 52, .int .i64 2047, .int .i64 (-1074)], .int .u64 7205759403792794, .int .i64 (-56)] w fun e w' => e = .returned (.tuple #[.int .u64 1, .int .i64 (-1)]) ∧ Keep w w' := by
  have hL := fun wx => Tryz.bits_Len64 7205759403792794 wx (by omega) (by omega)
  rw [show Lib.bitLen (7205759403792794 : Int).toNat = 53 by decide +kernel] at hL
  have hN := fun wx => newScale_pos (-56) 19 wx (by omega) (by omega)
  have q1 : 10 ^ 19 * 2 ^ ((-56 : Int) - 2).toNat = 10000000000000000000 := by decide
  have q2 : 1 * 2 ^ (-((-56 : Int) - 2)).toNat = 288230376151711744 := by decide
  rw [q1, q2] at hN
  have hB := fun u1 u2 wx h1 h2 => borders_tenth u1 u2 wx h1 h2
  have hO := fun u1 u2 wx h1 h2 => of_tenth u1 u2 57646075230342352 2000000000000000111 false wx 2101 (by omega) h1 h2 (by omega) (by decide +kernel) (by omega) (by decide +kernel)
  have hG := fun wx => goesUp_tenth wx
  obtain ⟨w1, hw1⟩ : ∃ w1, w.alloc (.cells #[.int .i64 52, .int .i64 2047, .int .i64 (-1074)] 85) = w1 := ⟨_, rfl⟩
  have k1 : Keep w w1 := by rw [← hw1]; exact (Keep.refl w).alloc _
  have F1 : Fm w1 w.heap.size := by rw [← hw1]; exact Fm.new w
  clear q1 q2
  go_enter Tryz.func99, Tryz.ntmps99
  go_wp2_with fail
  refine (hL _).mono ?_
  rintro e wz ⟨rfl, hwz⟩
  rw [hwz]
  clear hwz
  go_wp2_with fail
  refine (hN _).mono ?_
  rintro e w2 ⟨u1, u2, rfl, hu1, hu2, k2⟩
  obtain ⟨a1, l1, c1, rfl⟩ := hu1.shape
  obtain ⟨a2, l2, c2, rfl⟩ := hu2.shape
  obtain ⟨w3, hw3⟩ : ∃ w3, w2.alloc (.cells #[.slice a1 l1 c1, .slice a2 l2 c2] 173) = w3 := ⟨_, rfl⟩
  have k3 : Keep w2 w3 := by rw [← hw3]; exact (Keep.refl w2).alloc _
  have S3 : Sc w3 w2.heap.size (.slice a1 l1 c1) (.slice a2 l2 c2) := by rw [← hw3]; exact Sc.new w2 _ _
  have F3 := (F1.keep k2).keep k3
  obtain ⟨f0, f1, f2⟩ := F3.cells
  obtain ⟨s0, s1, -, -⟩ := S3.cells
  have HU1 : Hid (Lv w3 (.slice a1 l1 c1) 10000000000000000000 2101) := hu1.keep k3
  have HU2 : Hid (Lv w3 (.slice a2 l2 c2) 288230376151711744 2101) := hu2.keep k3
  have HS3 : Hid (Sc w3 w2.heap.size (.slice a1 l1 c1) (.slice a2 l2 c2)) := S3
  have HK3 : Hid (Keep w w3) := (k1.trans k2).trans k3
  clear F1 F3 S3 hu1 hu2 k1 k2 k3 hN hL
  go_wp2_with fail
  refine (hB _ _ _ HU1.out HU2.out).mono ?_
  rintro e w4 ⟨rfl, k4⟩
  obtain ⟨r0, r1, -, -⟩ := (HS3.out.keep k4).cells
  have HU1' : Hid (Lv w4 (.slice a1 l1 c1) 10000000000000000000 2101) := HU1.out.keep k4
  have HU2' : Hid (Lv w4 (.slice a2 l2 c2) 288230376151711744 2101) := HU2.out.keep k4
  have HK4 : Hid (Keep w w4) := HK3.out.trans k4
  clear hB k4
  go_wp2_with fail
  go_loopg [12, 13] (0) (fun g v12 v13 wx => v12 = .int .u64 1000000000000000000 ∧ v13 = .int .i64 18 ∧ wx = w4)
  case atStart => exact ⟨rfl, rfl, rfl⟩
  case round =>
    obtain ⟨rfl, rfl, rfl⟩ := hrel
    go_wp2_with fail
    refine (hO _ _ _ HU1'.out HU2'.out).mono ?_
    rintro e w5 ⟨rfl, k5⟩
    go_wp2_with fail
    refine (hG _).mono ?_
    rintro e w6 ⟨rfl, rfl⟩
    go_wp2_with fail
    go_ret2
    exact ⟨rfl, HK4.out.trans k5⟩
set_option maxRecDepth 100000 in
set_option maxHeartbeats 1000000 in
theorem shortest_tenth (w : World) :
    Calls Tryz.prog 57 #[.agg #[.int .i64 52, .int .i64 2047, .int .i64 (-1074)], .int .u64 4591870180066957722] w fun e w' => e = .returned (.string ⟨#[48, 46, 49]⟩) ∧ Keep w w' := by
  have hP := fun wx => parts_any 4591870180066957722 (by omega) wx
  rw [show pNeg 4591870180066957722 = false by decide, show pM 4591870180066957722 = 7205759403792794 by decide, show pE 4591870180066957722 = -56 by decide, show pKind 4591870180066957722 = 2 by decide] at hP
  have hN := fun wx => named_any 2 (by omega) wx
  rw [show nmS 2 = [] from rfl] at hN
  have hF := fun wx => fewest_tenth wx
  have hU := fun wx => FU_few 1 wx (by omega)
  have e1 : (Lib.decDigits 1).toArray = #[49] := by rw [Lib.decDigits]; rfl
  rw [e1] at hU
  have hLy := fun wx => layOut_tenth wx
  have hS := fun wx => signedF_any false 2 [48, 46, 49] (by omega) (by decide) wx
  rw [show sgS false [48, 46, 49] = [48, 46, 49] by rfl] at hS
  obtain ⟨w1, hw1⟩ : ∃ w1, w.alloc (.cells #[.int .i64 52, .int .i64 2047, .int .i64 (-1074)] 85) = w1 := ⟨_, rfl⟩
  have k1 : Keep w w1 := by rw [← hw1]; exact (Keep.refl w).alloc _
  have F1 : Fm w1 w.heap.size := by rw [← hw1]; exact Fm.new w
  obtain ⟨f0, f1, f2⟩ := F1.cells
  have HF1 : Hid (Fm w1 w.heap.size) := F1
  clear F1 e1
  go_enter Tryz.func57, Tryz.ntmps57
  go_wp2_with fail
  refine (hP _).mono ?_
  rintro e w2 ⟨rfl, k2⟩
  obtain ⟨g0, g1, g2⟩ := (HF1.out.keep k2).cells
  go_wp2_with fail
  refine (hN _).mono ?_
  rintro e w3 ⟨rfl, rfl⟩
  go_wp2_with fail
  refine (hF _).mono ?_
  rintro e w4 ⟨rfl, k4⟩
  go_wp2_with fail
  refine (hU _).mono ?_
  rintro e w5 ⟨rfl, k5⟩
  go_wp2_with fail
  refine (hLy _).mono ?_
  rintro e w6 ⟨rfl, k6⟩
  go_wp2_with fail
  refine (hS _).mono ?_
  rintro e w7 ⟨rfl, rfl⟩
  go_wp2_with fail
  go_ret
  exact ⟨rfl, (((k1.trans k2).trans k4).trans k5).trans k6⟩
set_option maxRecDepth 100000 in
theorem Shortest_tenth (w : World) : Calls Tryz.prog 21 #[.float .f64 4591870180066957722] w fun e w' => e = .returned (.string ⟨#[48, 46, 49]⟩) ∧ Keep w w' := by
  have hb := fun wx => binary64_any wx
  have h34 := fun wx => f64bits 4591870180066957722 wx
  have hs := fun wx => shortest_tenth wx
  go_enter Tryz.func21, Tryz.ntmps21
  go_wp2_with fail
  refine (hb _).mono ?_
  rintro e w1 ⟨rfl, k1⟩
  go_wp2_with fail
  refine (hs _).mono ?_
  rintro e w2 ⟨rfl, k2⟩
  go_wp2_with fail
  go_ret
  exact ⟨rfl, k1.trans k2⟩
set_option maxRecDepth 100000 in
set_option maxHeartbeats 400000 in
/-- A tenth is read and written. -/
theorem begins_any (w : World) : Calls Tryz.prog 29 #[] w fun e w' => e = .returned (.bool true) ∧ Keep w w' := by
  have hR := fun wx => Read_tenth wx
  have h34 := fun wx => f64bits 4591870180066957722 wx
  have hS := fun wx => Shortest_tenth wx
  have hH := fun wx => Hex_one wx
  go_enter Tryz.func29, Tryz.ntmps29
  go_wp2_with fail
  refine (hR _).mono ?_
  rintro e w1 ⟨rfl, k1⟩
  go_wp2_with fail
  refine (hS _).mono ?_
  rintro e w2 ⟨rfl, k2⟩
  go_wp2_with fail
  refine (hH _).mono ?_
  rintro e w3 ⟨rfl, k3⟩
  go_wp2_with fail
  go_ret
  exact ⟨rfl, (k1.trans k2).trans k3⟩
end Go.Proofs.YtpdjpjkieafnbaaGreatDoor.Li
