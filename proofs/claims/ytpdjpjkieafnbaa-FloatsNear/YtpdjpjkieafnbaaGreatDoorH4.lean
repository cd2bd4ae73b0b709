import Derived.Test.YtpdjpjkieafnbaaGreatDoorH3
set_option linter.unusedVariables false
set_option linter.unusedSimpArgs false
namespace Go.Proofs.YtpdjpjkieafnbaaGreatDoor.Li
open Go.RowKit Lb Nr
theorem word_room {x K : Nat} (h : x < 4294967296 ^ 4) (hK : 4 ≤ K) : x < 4294967296 ^ K := Nat.lt_of_lt_of_le h (Nat.pow_le_pow_right (by omega) hK)
/-- The scale of a tenth. -/
theorem of_tenth (u1 u2 : Value) (n Q : Nat) (b : Bool) (w : World) (K : Nat) (hK : 4 ≤ K ∧ K ≤ 35184372000000) (h1 : Lv w u1 10000000000000000000 K) (h2 : Lv w u2 288230376151711744 K) (hn : n < 18446744073709551616) (hQ : n * 10000000000000000000 / 288230376151711744 = Q) (hq : Q < 18446744073709551616) (hb : decide (n * 10000000000000000000 % 288230376151711744 = 0) = b) :
    Calls Tryz.prog 144 #[.agg #[u1, u2], .int .u64 (n : Nat)] w fun e w' => e = .returned (.tuple #[.int .u64 ((Q : Nat) : Int), .bool b]) ∧ Keep w w' := by
  have h := of_any u1 u2 10000000000000000000 288230376151711744 K n w h1 h2 (by omega) (by omega) hn (by rw [hQ]; exact hq) K (by omega) (by omega) (by omega) (word_room (by show _ < 340282366920938463463374607431768211456; omega) (by omega))
  rw [hQ, hb] at h
  exact h
set_option maxRecDepth 100000 in
set_option maxHeartbeats 1000000 in
theorem borders_tenth (u1 u2 : Value) (w : World) (h1 : Lv w u1 10000000000000000000 2101) (h2 : Lv w u2 288230376151711744 2101) :
    Calls Tryz.prog 143 #[.agg #[.int .i64 52, .int .i64 2047, .int .i64 (-1074)], .int .u64 7205759403792794, .int .i64 (-56), .agg #[u1, u2]] w fun e w' => e = .returned (.tuple #[.int .u64 999999999999999987, .int .u64 1000000000000000124]) ∧ Keep w w' := by
  have hO1 := fun wx (k : Keep w wx) => of_tenth u1 u2 28823037615171174 999999999999999986 false wx 2101 (by omega) (h1.keep k) (h2.keep k) (by omega) (by decide +kernel) (by omega) (by decide +kernel)
  have hO2 := fun wx (k : Keep w wx) => of_tenth u1 u2 28823037615171178 1000000000000000124 false wx 2101 (by omega) (h1.keep k) (h2.keep k) (by omega) (by decide +kernel) (by omega) (by decide +kernel)
  obtain ⟨a1, l1, c1, rfl⟩ := h1.shape
  obtain ⟨a2, l2, c2, rfl⟩ := h2.shape
  obtain ⟨w1, hw1⟩ : ∃ w1, (w.alloc (.cells #[.int .i64 52, .int .i64 2047, .int .i64 (-1074)] 85)).alloc (.cells #[.slice a1 l1 c1, .slice a2 l2 c2] 173) = w1 := ⟨_, rfl⟩
  have k1 : Keep w w1 := by rw [← hw1]; exact ((Keep.refl w).alloc _).alloc _
  have F1 : Fm w1 w.heap.size := by rw [← hw1]; exact (Fm.new w).keep ((Keep.refl _).alloc _)
  have S1 : Sc w1 (w.heap.size + 1) (.slice a1 l1 c1) (.slice a2 l2 c2) := by
    rw [← hw1]
    have := Sc.new (w.alloc (.cells #[.int .i64 52, .int .i64 2047, .int .i64 (-1074)] 85)) (.slice a1 l1 c1) (.slice a2 l2 c2)
    rw [show (w.alloc (.cells #[.int .i64 52, .int .i64 2047, .int .i64 (-1074)] 85)).heap.size = w.heap.size + 1 by simp] at this
    exact this
  obtain ⟨f0, f1, f2⟩ := F1.cells
  obtain ⟨s0, s1, -, -⟩ := S1.cells
  have HS1 : Hid (Sc w1 (w.heap.size + 1) (.slice a1 l1 c1) (.slice a2 l2 c2)) := S1
  have HK1 : Hid (Keep w w1) := k1
  clear F1 S1 k1 h1 h2
  have t1 : True := trivial
  go_enter Tryz.func143, Tryz.ntmps143
  go_wp2_with fail
  refine (hO1 _ HK1.out).mono ?_
  rintro e w2 ⟨rfl, k2⟩
  obtain ⟨r0, r1, -, -⟩ := (HS1.out.keep k2).cells
  have HK2 : Hid (Keep w w2) := HK1.out.trans k2
  clear hO1 k2
  go_wp2_with fail
  refine (hO2 _ HK2.out).mono ?_
  rintro e w3 ⟨rfl, k3⟩
  go_wp2_with fail
  go_ret2
  exact ⟨rfl, HK2.out.trans k3⟩
set_option maxRecDepth 100000 in
set_option maxHeartbeats 400000 in
theorem goesUp_tenth (w : World) : Calls Tryz.prog 145 #[.int .u64 1, .int .u64 1000000000000000000, .int .u64 111, .bool false, .int .u64 999999999999999987, .int .u64 1000000000000000124] w fun e w' => e = .returned (.bool false) ∧ w = w' := by
  go_enter Tryz.func145, Tryz.ntmps145
  go_wp2_with fail
  go_ret
  exact ⟨rfl, rfl⟩
set_option maxRecDepth 100000 in
set_option maxHeartbeats 400000 in
theorem layOut_tenth (w : World) : Calls Tryz.prog 100 #[.string ⟨#[49]⟩, .int .i64 (-1)] w fun e w' => e = .returned (.string ⟨#[48, 46, 49]⟩) ∧ Keep w w' := by
  have hR := fun wx => Tryz.strings_Repeat_zero ⟨#[48]⟩ wx
  go_enter Tryz.func100, Tryz.ntmps100
  go_wp2_with fail
  refine (hR _).mono ?_
  rintro e wz ⟨rfl, hwz⟩
  rw [hwz]
  clear hwz
  go_wp2_with fail
  go_ret
  exact ⟨rfl, Keep.refl _⟩
end Go.Proofs.YtpdjpjkieafnbaaGreatDoor.Li
