import Derived.Test.YtpdjpjkieafnbaaGreatDoorZ8
import Derived.Test.YtpdjpjkieafnbaaGreatDoorR14
set_option linter.unusedVariables false
set_option linter.unusedSimpArgs false
namespace Go.Proofs.YtpdjpjkieafnbaaGreatDoor.Li
open Go.RowKit Lb Nr
set_option maxRecDepth 100000 in
set_option maxHeartbeats 800000 in
theorem read_nan (w : World) :
    Calls Tryz.prog 45 #[.agg #[.int .i64 52, .int .i64 2047, .int .i64 (-1074)], .string ⟨#[110, 97, 110]⟩] w fun e w' =>
      e = .returned (.tuple #[.int .u64 9221120237041090560, .int .i64 0, .int .i64 0]) ∧ Keep w w' := by
  have hN := fun wx => nan_any wx
  have hI := fun wx => infinity_any wx
  have hS := fun wx => signBit_any wx
  unfold fmtV at *
  obtain ⟨w0, hw0⟩ : ∃ w0, w.alloc (.cells #[.int .i64 52, .int .i64 2047, .int .i64 (-1074)] 85) = w0 := ⟨_, rfl⟩
  have F0 : Fm w0 w.heap.size := by rw [← hw0]; exact Fm.new w
  have K0 : Keep w w0 := by rw [← hw0]; exact (Keep.refl w).alloc _
  obtain ⟨f0, f1, f2⟩ := F0.cells
  go_enter Tryz.func45, Tryz.ntmps45
  go_wp2_with fail
  refine (hN _).mono ?_
  rintro e w2 ⟨rfl, k2⟩
  go_wp2_with fail
  go_ret3
  exact ⟨rfl, K0.trans k2⟩
set_option maxRecDepth 100000 in
set_option maxHeartbeats 800000 in
theorem read_inf (w : World) :
    Calls Tryz.prog 45 #[.agg #[.int .i64 52, .int .i64 2047, .int .i64 (-1074)], .string ⟨#[105, 110, 102]⟩] w fun e w' =>
      e = .returned (.tuple #[.int .u64 9218868437227405312, .int .i64 0, .int .i64 0]) ∧ Keep w w' := by
  have hN := fun wx => nan_any wx
  have hI := fun wx => infinity_any wx
  have hS := fun wx => signBit_any wx
  unfold fmtV at *
  obtain ⟨w0, hw0⟩ : ∃ w0, w.alloc (.cells #[.int .i64 52, .int .i64 2047, .int .i64 (-1074)] 85) = w0 := ⟨_, rfl⟩
  have F0 : Fm w0 w.heap.size := by rw [← hw0]; exact Fm.new w
  have K0 : Keep w w0 := by rw [← hw0]; exact (Keep.refl w).alloc _
  obtain ⟨f0, f1, f2⟩ := F0.cells
  go_enter Tryz.func45, Tryz.ntmps45
  go_wp2_with fail
  refine (hI _).mono ?_
  rintro e w2 ⟨rfl, k2⟩
  go_wp2_with fail
  go_ret3
  exact ⟨rfl, K0.trans k2⟩
set_option maxRecDepth 100000 in
set_option maxHeartbeats 800000 in
theorem read_ninf (w : World) :
    Calls Tryz.prog 45 #[.agg #[.int .i64 52, .int .i64 2047, .int .i64 (-1074)], .string ⟨#[45, 105, 110, 102]⟩] w fun e w' =>
      e = .returned (.tuple #[.int .u64 18442240474082181120, .int .i64 0, .int .i64 0]) ∧ Keep w w' := by
  have hN := fun wx => nan_any wx
  have hI := fun wx => infinity_any wx
  have hS := fun wx => signBit_any wx
  unfold fmtV at *
  obtain ⟨w0, hw0⟩ : ∃ w0, w.alloc (.cells #[.int .i64 52, .int .i64 2047, .int .i64 (-1074)] 85) = w0 := ⟨_, rfl⟩
  have F0 : Fm w0 w.heap.size := by rw [← hw0]; exact Fm.new w
  have K0 : Keep w w0 := by rw [← hw0]; exact (Keep.refl w).alloc _
  obtain ⟨f0, f1, f2⟩ := F0.cells
  go_enter Tryz.func45, Tryz.ntmps45
  go_wp2_with fail
  go_region_with (first | (go_at_call 87; refine (hI _).mono ?_; rintro e w2 ⟨rfl, k2⟩; first | (have kx := (Keep.refl w0).drew.trans k2; obtain ⟨g0, g1, g2⟩ := (F0.keep kx).cells) | (have kx := ky.trans k2)) | (go_at_call 72; refine (hS _).mono ?_; rintro e w3 ⟨rfl, k3⟩; first | (have ky := kx.trans k3) | (have ky := (Keep.refl w0).drew.trans k3; obtain ⟨h0, h1, h2⟩ := (F0.keep ky).cells)))
  all_goals
    go_wp2_with fail
    go_ret3
    exact ⟨rfl, by first | exact K0.trans ky | exact K0.trans kx | exact K0.trans (ky.trans k2) | exact (K0.trans ky).drew⟩
namespace Nw
set_option maxRecDepth 100000 in
set_option maxHeartbeats 800000 in
theorem read_nan (w : World) :
    Calls Tryz.prog 45 #[.agg #[.int .i64 23, .int .i64 255, .int .i64 (-149)], .string ⟨#[110, 97, 110]⟩] w fun e w' =>
      e = .returned (.tuple #[.int .u64 2143289344, .int .i64 0, .int .i64 0]) ∧ Keep w w' := by
  have hN := fun wx => nan_any wx
  have hI := fun wx => infinity_any wx
  have hS := fun wx => signBit_any wx
  unfold fmtV at *
  obtain ⟨w0, hw0⟩ : ∃ w0, w.alloc (.cells #[.int .i64 23, .int .i64 255, .int .i64 (-149)] 85) = w0 := ⟨_, rfl⟩
  have F0 : Fm w0 w.heap.size := by rw [← hw0]; exact Fm.new w
  have K0 : Keep w w0 := by rw [← hw0]; exact (Keep.refl w).alloc _
  obtain ⟨f0, f1, f2⟩ := F0.cells
  go_enter Tryz.func45, Tryz.ntmps45
  go_wp2_with fail
  refine (hN _).mono ?_
  rintro e w2 ⟨rfl, k2⟩
  go_wp2_with fail
  go_ret3
  exact ⟨rfl, K0.trans k2⟩
set_option maxRecDepth 100000 in
set_option maxHeartbeats 800000 in
theorem read_inf (w : World) :
    Calls Tryz.prog 45 #[.agg #[.int .i64 23, .int .i64 255, .int .i64 (-149)], .string ⟨#[105, 110, 102]⟩] w fun e w' =>
      e = .returned (.tuple #[.int .u64 2139095040, .int .i64 0, .int .i64 0]) ∧ Keep w w' := by
  have hN := fun wx => nan_any wx
  have hI := fun wx => infinity_any wx
  have hS := fun wx => signBit_any wx
  unfold fmtV at *
  obtain ⟨w0, hw0⟩ : ∃ w0, w.alloc (.cells #[.int .i64 23, .int .i64 255, .int .i64 (-149)] 85) = w0 := ⟨_, rfl⟩
  have F0 : Fm w0 w.heap.size := by rw [← hw0]; exact Fm.new w
  have K0 : Keep w w0 := by rw [← hw0]; exact (Keep.refl w).alloc _
  obtain ⟨f0, f1, f2⟩ := F0.cells
  go_enter Tryz.func45, Tryz.ntmps45
  go_wp2_with fail
  refine (hI _).mono ?_
  rintro e w2 ⟨rfl, k2⟩
  go_wp2_with fail
  go_ret3
  exact ⟨rfl, K0.trans k2⟩
set_option maxRecDepth 100000 in
set_option maxHeartbeats 800000 in
theorem read_ninf (w : World) :
    Calls Tryz.prog 45 #[.agg #[.int .i64 23, .int .i64 255, .int .i64 (-149)], .string ⟨#[45, 105, 110, 102]⟩] w fun e w' =>
      e = .returned (.tuple #[.int .u64 4286578688, .int .i64 0, .int .i64 0]) ∧ Keep w w' := by
  have hN := fun wx => nan_any wx
  have hI := fun wx => infinity_any wx
  have hS := fun wx => signBit_any wx
  unfold fmtV at *
  obtain ⟨w0, hw0⟩ : ∃ w0, w.alloc (.cells #[.int .i64 23, .int .i64 255, .int .i64 (-149)] 85) = w0 := ⟨_, rfl⟩
  have F0 : Fm w0 w.heap.size := by rw [← hw0]; exact Fm.new w
  have K0 : Keep w w0 := by rw [← hw0]; exact (Keep.refl w).alloc _
  obtain ⟨f0, f1, f2⟩ := F0.cells
  go_enter Tryz.func45, Tryz.ntmps45
  go_wp2_with fail
  go_region_with (first | (go_at_call 87; refine (hI _).mono ?_; rintro e w2 ⟨rfl, k2⟩; first | (have kx := (Keep.refl w0).drew.trans k2; obtain ⟨g0, g1, g2⟩ := (F0.keep kx).cells) | (have kx := ky.trans k2)) | (go_at_call 72; refine (hS _).mono ?_; rintro e w3 ⟨rfl, k3⟩; first | (have ky := kx.trans k3) | (have ky := (Keep.refl w0).drew.trans k3; obtain ⟨h0, h1, h2⟩ := (F0.keep ky).cells)))
  all_goals
    go_wp2_with fail
    go_ret3
    exact ⟨rfl, by first | exact K0.trans ky | exact K0.trans kx | exact K0.trans (ky.trans k2) | exact (K0.trans ky).drew⟩
end Nw
end Go.Proofs.YtpdjpjkieafnbaaGreatDoor.Li
set_option linter.unusedVariables false
set_option linter.unusedSimpArgs false
namespace Go.Proofs.YtpdjpjkieafnbaaGreatDoor.Li
open Go.RowKit Lb Nr
set_option maxRecDepth 100000 in
set_option maxHeartbeats 400000 in
/-- A text that is too long. -/
theorem read_longW (s : List UInt8) (w : World) (hs : 4096 < s.length) :
    Calls Tryz.prog 45 #[.agg #[.int .i64 52, .int .i64 2047, .int .i64 (-1074)], .string ⟨s.toArray⟩] w fun e w' =>
      e = .returned (.tuple #[.int .u64 0, .int .i64 4, .int .i64 0]) ∧ Keep w w' := by
  have hsz : (ByteArray.mk s.toArray).size = s.length := sz_mk s
  have e0 : decide ((4096 : Int) < (s.length : Int)) = true := decide_eq_true (by omega)
  go_enter Tryz.func45, Tryz.ntmps45
  go_wp2_with fail
  go_ret3
  exact ⟨rfl, (Keep.refl w).alloc _⟩
/-- What the bits, the error and the place are that a text is read as. -/
def FR (s : List UInt8) (x e a : Nat) : Prop :=
  (4096 < s.length ∧ x = 0 ∧ e = 4 ∧ a = 0) ∨
  (s.length ≤ 4096 ∧ (
    (s = [110, 97, 110] ∧ x = 9221120237041090560 ∧ e = 0 ∧ a = 0) ∨
    (s = [105, 110, 102] ∧ x = 9218868437227405312 ∧ e = 0 ∧ a = 0) ∨
    (s = [45, 105, 110, 102] ∧ x = 18442240474082181120 ∧ e = 0 ∧ a = 0) ∨
    (cOk s = true ∧ e = 0 ∧ a = 0 ∧ ∃ y, x = y + sg (cNg s) ∧ (cHx s = false → NB (rdN s * 10 ^ (rdP s).toNat) (10 ^ (-(rdP s)).toNat) y) ∧ (cHx s = true → NB (rxN s * 2 ^ (rxP s).toNat) (2 ^ (-(rxP s)).toNat) y)) ∨
    (s ≠ [110, 97, 110] ∧ s ≠ [105, 110, 102] ∧ s ≠ [45, 105, 110, 102] ∧ cOk s = false ∧ x = 0 ∧ e = 20 ∧ a = fltAt s)))
/-- format.read, of every text. -/
theorem read_all (s : List UInt8) (w : World) :
    Calls Tryz.prog 45 #[.agg #[.int .i64 52, .int .i64 2047, .int .i64 (-1074)], .string ⟨s.toArray⟩] w fun r w' =>
      ∃ x e a : Nat, r = .returned (.tuple #[.int .u64 (x : Nat), .int .i64 (e : Nat), .int .i64 (a : Nat)]) ∧ FR s x e a ∧ Keep w w' := by
  by_cases hl : 4096 < s.length
  · refine (read_longW s w hl).mono ?_
    rintro r w' ⟨rfl, k⟩
    exact ⟨0, 4, 0, rfl, .inl ⟨hl, rfl, rfl, rfl⟩, k⟩
  have hl' : s.length ≤ 4096 := by omega
  by_cases h1 : s = [110, 97, 110]
  · subst h1
    refine (read_nan w).mono ?_
    rintro r w' ⟨rfl, k⟩
    exact ⟨_, 0, 0, rfl, .inr ⟨hl', .inl ⟨rfl, rfl, rfl, rfl⟩⟩, k⟩
  by_cases h2 : s = [105, 110, 102]
  · subst h2
    refine (read_inf w).mono ?_
    rintro r w' ⟨rfl, k⟩
    exact ⟨_, 0, 0, rfl, .inr ⟨hl', .inr (.inl ⟨rfl, rfl, rfl, rfl⟩)⟩, k⟩
  by_cases h3 : s = [45, 105, 110, 102]
  · subst h3
    refine (read_ninf w).mono ?_
    rintro r w' ⟨rfl, k⟩
    exact ⟨_, 0, 0, rfl, .inr ⟨hl', .inr (.inr (.inl ⟨rfl, rfl, rfl, rfl⟩))⟩, k⟩
  cases hok : cOk s with
  | false =>
    refine (read_bad s w hl' hok h1 h2 h3).mono ?_
    rintro r w' ⟨rfl, k⟩
    exact ⟨0, 20, fltAt s, rfl, .inr ⟨hl', .inr (.inr (.inr (.inr ⟨h1, h2, h3, hok, rfl, rfl, rfl⟩)))⟩, k⟩
  | true =>
    cases hhx : cHx s with
    | false =>
      refine (read_dec s w hl' hok hhx).mono ?_
      rintro r w' ⟨x, rfl, hx, k⟩
      exact ⟨_, 0, 0, rfl, .inr ⟨hl', .inr (.inr (.inr (.inl ⟨hok, rfl, rfl, x, rfl, fun _ => hx, fun h => by rw [hhx] at h; cases h⟩)))⟩, k⟩
    | true =>
      refine (read_hex s w hl' hok hhx).mono ?_
      rintro r w' ⟨x, rfl, hx, k⟩
      exact ⟨_, 0, 0, rfl, .inr ⟨hl', .inr (.inr (.inr (.inl ⟨hok, rfl, rfl, x, rfl, fun h => by (rw [hhx] at h; cases h), fun _ => hx⟩)))⟩, k⟩
set_option maxRecDepth 100000 in
set_option maxHeartbeats 400000 in
/-- Read, of every text. -/
theorem Read_all (s : List UInt8) (w : World) :
    Calls Tryz.prog 12 #[.string ⟨s.toArray⟩] w fun r w' =>
      ∃ x e a : Nat, r = .returned (.tuple #[.float .f64 x, .int .i64 (e : Nat), .int .i64 (a : Nat)]) ∧ FR s x e a ∧ Keep w w' := by
  have hb := fun wx => binary64_any wx
  have hr := fun wx => read_all s wx
  have hf := fun (x : Nat) wx => f64from x wx
  go_enter Tryz.func12, Tryz.ntmps12
  go_wp2_with fail
  refine (hb _).mono ?_
  rintro r w1 ⟨rfl, k1⟩
  go_wp2_with fail
  refine (hr _).mono ?_
  rintro r w2 ⟨x, e, a, rfl, hx, k2⟩
  have HX : Hid (FR s x e a) := hx
  have hf1 := fun wx => hf x wx
  clear hx hf hr hb
  go_wp2_with fail
  go_ret3
  exact ⟨x, e, a, rfl, HX.out, k1.trans k2⟩
end Go.Proofs.YtpdjpjkieafnbaaGreatDoor.Li
