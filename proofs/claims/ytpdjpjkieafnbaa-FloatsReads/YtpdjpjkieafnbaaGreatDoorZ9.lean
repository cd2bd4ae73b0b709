import Derived.Test.YtpdjpjkieafnbaaGreatDoorZ8
set_option linter.unusedVariables false
set_option linter.unusedSimpArgs false
namespace Go.Proofs.YtpdjpjkieafnbaaGreatDoor.Li
open Go.RowKit Lb Nr
set_option maxRecDepth 100000 in
set_option maxHeartbeats 800000 in
theorem read_nan (w : World) :
    Calls Tryz.prog 45 #[.agg #[.int .i64 52, .int .i64 2047, .int .i64 (-1074)], .string ⟨#[110, 97, 110]⟩] w fun e w' =>
      e = .returned (.tuple #[.int .u64 9221120237041090560, .int .i64 0, .int .i64 0]) ∧ Keep w w' := by
  have hN := fun wx => nan_any wx
  have hI := fun wx => infinity_any wx
  have hS := fun wx => signBit_any wx
  unfold fmtV at *
  obtain ⟨w0, hw0⟩ : ∃ w0, w.alloc (.cells #[.int .i64 52, .int .i64 2047, .int .i64 (-1074)] 85) = w0 := ⟨_, rfl⟩
  have F0 : Fm w0 w.heap.size := by rw [← hw0]; exact Fm.new w
  have K0 : Keep w w0 := by rw [← hw0]; exact (Keep.refl w).alloc _
  obtain ⟨f0, f1, f2⟩ := F0.cells
  go_enter Tryz.func45, Tryz.ntmps45
  go_wp2_with fail
  refine (hN _).mono ?_
  rintro e w2 ⟨rfl, k2⟩
  go_wp2_with fail
  go_ret3
  exact ⟨rfl, K0.trans k2⟩
set_option maxRecDepth 100000 in
set_option maxHeartbeats 800000 in
theorem read_inf (w : World) :
    Calls Tryz.prog 45 #[.agg #[.int .i64 52, .int .i64 2047, .int .i64 (-1074)], .string ⟨#[105, 110, 102]⟩] w fun e w' =>
      e = .returned (.tuple #[.int .u64 9218868437227405312, .int .i64 0, .int .i64 0]) ∧ Keep w w' := by
  have hN := fun wx => nan_any wx
  have hI := fun wx => infinity_any wx
  have hS := fun wx => signBit_any wx
  unfold fmtV at *
  obtain ⟨w0, hw0⟩ : ∃ w0, w.alloc (.cells #[.int .i64 52, .int .i64 2047, .int .i64 (-1074)] 85) = w0 := ⟨_, rfl⟩
  have F0 : Fm w0 w.heap.size := by rw [← hw0]; exact Fm.new w
  have K0 : Keep w w0 := by rw [← hw0]; exact (Keep.refl w).alloc _
  obtain ⟨f0, f1, f2⟩ := F0.cells
  go_enter Tryz.func45, Tryz.ntmps45
  go_wp2_with fail
  refine (hI _).mono ?_
  rintro e w2 ⟨rfl, k2⟩
  go_wp2_with fail
  go_ret3
  exact ⟨rfl, K0.trans k2⟩
set_option maxRecDepth 100000 in
set_option maxHeartbeats 800000 in
theorem read_ninf (w : World) :
    Calls Tryz.prog 45 #[.agg #[.int .i64 52, .int .i64 2047, .int .i64 (-1074)], .string ⟨#[45, 105, 110, 102]⟩] w fun e w' =>
      e = .returned (.tuple #[.int .u64 18442240474082181120, .int .i64 0, .int .i64 0]) ∧ Keep w w' := by
  have hN := fun wx => nan_any wx
  have hI := fun wx => infinity_any wx
  have hS := fun wx => signBit_any wx
  unfold fmtV at *
  obtain ⟨w0, hw0⟩ : ∃ w0, w.alloc (.cells #[.int .i64 52, .int .i64 2047, .int .i64 (-1074)] 85) = w0 := ⟨_, rfl⟩
  have F0 : Fm w0 w.heap.size := by rw [← hw0]; exact Fm.new w
  have K0 : Keep w w0 := by rw [← hw0]; exact (Keep.refl w).alloc _
  obtain ⟨f0, f1, f2⟩ := F0.cells
  go_enter Tryz.func45, Tryz.ntmps45
  go_wp2_with fail
  go_region_with (first | (go_at_call 87; refine (hI _).mono ?_; rintro e w2 ⟨rfl, k2⟩; first | (have kx := (Keep.refl w0).drew.trans k2; obtain ⟨g0, g1, g2⟩ := (F0.keep kx).cells) | (have kx := ky.trans k2)) | (go_at_call 72; refine (hS _).mono ?_; rintro e w3 ⟨rfl, k3⟩; first | (have ky := kx.trans k3) | (have ky := (Keep.refl w0).drew.trans k3; obtain ⟨h0, h1, h2⟩ := (F0.keep ky).cells)))
  all_goals
    go_wp2_with fail
    go_ret3
    exact ⟨rfl, by first | exact K0.trans ky | exact K0.trans kx | exact K0.trans (ky.trans k2) | exact (K0.trans ky).drew⟩
namespace Nw
set_option maxRecDepth 100000 in
set_option maxHeartbeats 800000 in
theorem read_nan (w : World) :
    Calls Tryz.prog 45 #[.agg #[.int .i64 23, .int .i64 255, .int .i64 (-149)], .string ⟨#[110, 97, 110]⟩] w fun e w' =>
      e = .returned (.tuple #[.int .u64 2143289344, .int .i64 0, .int .i64 0]) ∧ Keep w w' := by
  have hN := fun wx => nan_any wx
  have hI := fun wx => infinity_any wx
  have hS := fun wx => signBit_any wx
  unfold fmtV at *
  obtain ⟨w0, hw0⟩ : ∃ w0, w.alloc (.cells #[.int .i64 23, .int .i64 255, .int .i64 (-149)] 85) = w0 := ⟨_, rfl⟩
  have F0 : Fm w0 w.heap.size := by rw [← hw0]; exact Fm.new w
  have K0 : Keep w w0 := by rw [← hw0]; exact (Keep.refl w).alloc _
  obtain ⟨f0, f1, f2⟩ := F0.cells
  go_enter Tryz.func45, Tryz.ntmps45
  go_wp2_with fail
  refine (hN _).mono ?_
  rintro e w2 ⟨rfl, k2⟩
  go_wp2_with fail
  go_ret3
  exact ⟨rfl, K0.trans k2⟩
set_option maxRecDepth 100000 in
set_option maxHeartbeats 800000 in
theorem read_inf (w : World) :
    Calls Tryz.prog 45 #[.agg #[.int .i64 23, .int .i64 255, .int .i64 (-149)], .string ⟨#[105, 110, 102]⟩] w fun e w' =>
      e = .returned (.tuple #[.int .u64 2139095040, .int .i64 0, .int .i64 0]) ∧ Keep w w' := by
  have hN := fun wx => nan_any wx
  have hI := fun wx => infinity_any wx
  have hS := fun wx => signBit_any wx
  unfold fmtV at *
  obtain ⟨w0, hw0⟩ : ∃ w0, w.alloc (.cells #[.int .i64 23, .int .i64 255, .int .i64 (-149)] 85) = w0 := ⟨_, rfl⟩
  have F0 : Fm w0 w.heap.size := by rw [← hw0]; exact Fm.new w
  have K0 : Keep w w0 := by rw [← hw0]; exact (Keep.refl w).alloc _
  obtain ⟨f0, f1, f2⟩ := F0.cells
  go_enter Tryz.func45, Tryz.ntmps45
  go_wp2_with fail
  refine (hI _).mono ?_
  rintro e w2 ⟨rfl, k2⟩
  go_wp2_with fail
  go_ret3
  exact ⟨rfl, K0.trans k2⟩
set_option maxRecDepth 100000 in
set_option maxHeartbeats 800000 in
theorem read_ninf (w : World) :
    Calls Tryz.prog 45 #[.agg #[.int .i64 23, .int .i64 255, .int .i64 (-149)], .string ⟨#[45, 105, 110, 102]⟩] w fun e w' =>
      e = .returned (.tuple #[.int .u64 4286578688, .int .i64 0, .int .i64 0]) ∧ Keep w w' := by
  have hN := fun wx => nan_any wx
  have hI := fun wx => infinity_any wx
  have hS := fun wx => signBit_any wx
  unfold fmtV at *
  obtain ⟨w0, hw0⟩ : ∃ w0, w.alloc (.cells #[.int .i64 23, .int .i64 255, .int .i64 (-149)] 85) = w0 := ⟨_, rfl⟩
  have F0 : Fm w0 w.heap.size := by rw [← hw0]; exact Fm.new w
  have K0 : Keep w w0 := by rw [← hw0]; exact (Keep.refl w).alloc _
  obtain ⟨f0, f1, f2⟩ := F0.cells
  go_enter Tryz.func45, Tryz.ntmps45
  go_wp2_with fail
  go_region_with (first | (go_at_call 87; refine (hI _).mono ?_; rintro e w2 ⟨rfl, k2⟩; first | (have kx := (Keep.refl w0).drew.trans k2; obtain ⟨g0, g1, g2⟩ := (F0.keep kx).cells) | (have kx := ky.trans k2)) | (go_at_call 72; refine (hS _).mono ?_; rintro e w3 ⟨rfl, k3⟩; first | (have ky := kx.trans k3) | (have ky := (Keep.refl w0).drew.trans k3; obtain ⟨h0, h1, h2⟩ := (F0.keep ky).cells)))
  all_goals
    go_wp2_with fail
    go_ret3
    exact ⟨rfl, by first | exact K0.trans ky | exact K0.trans kx | exact K0.trans (ky.trans k2) | exact (K0.trans ky).drew⟩
end Nw
end Go.Proofs.YtpdjpjkieafnbaaGreatDoor.Li
