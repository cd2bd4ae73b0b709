import Derived.Test.YtpdjpjkieafnbaaGreatDoorSQ2
set_option linter.unusedVariables false
set_option linter.unusedSimpArgs false
namespace Go.Proofs.YtpdjpjkieafnbaaGreatDoor.Li
open Go.RowKit Go.Shelf Lb
set_option maxRecDepth 100000 in
set_option maxHeartbeats 2000000 in
theorem Split_nan (s : List UInt8) (w : World) (hs : s.length ≤ 4096) (hg : cNg s = false) (hl : 0 < s.length) (hc : s.getD 0 0 = 110) :
    Calls Tryz.prog 46 #[.string ⟨s.toArray⟩] w fun e w' => (∃ T V, e = .returned (.tuple #[.agg T, .int .i64 V]) ∧ SpA s T V) ∧ Keep w w' := by
  have s1 : (ByteArray.mk s.toArray).size = s.length := sz_mk s
  have hix : ∀ wx, (Instr.index 9 (.string ⟨s.toArray⟩) (.int .i64 0)).run Tryz.prog wx = .ok (.int .u8 110) wx := fun wx => by
    have a := run_ix s 0 hl wx
    rw [hc] at a
    exact a
  have hW := fun wx => word_any s [110, 97, 110] 0 wx hs (by simp) (by omega)
  obtain ⟨n, hn⟩ : ∃ n, wrd s 0 [110, 97, 110] = n := ⟨_, rfl⟩
  rw [hn] at hW
  have hn3 : n ≤ 3 := by rw [← hn, wrd_alk]; exact (alk_le _ _).2
  have fin : ∀ T V, TSh T → _ → SpA s T V := fun T V h1 h => sp_nan (T := T) (V := V) hg hl hc n hn h1 h
  obtain ⟨L, hL⟩ : ∃ L, s.length = L := ⟨_, rfl⟩
  rw [hL] at s1 hs hl fin
  have hd0 : decide ((0 : Int) < (L : Int)) = true := decide_eq_true (by omega)
  have hdK : decide ((0 : Int) < (L : Int)) = true := decide_eq_true (by omega)
  have hF : Hid (∀ T V, TSh T → _ → SpA s T V) := fin
  clear hn hL hg hc fin
  go_enter Tryz.func46, Tryz.ntmps46
  go_wp2_with fail
  refine (hW _).mono ?_
  rintro e w2 ⟨rfl, k2⟩
  have B0 := (Bk.two w _ _).keep k2
  have B1 := (Bk.two1 w _ _).keep k2
  have K2 : Hid (Keep w w2) := (keep_two w _ _).trans k2
  have HB0 : Hid (Bk w2 w.heap.size _) := B0
  obtain ⟨c0, c1, c2, c3, c4, c5, c6, c7, c8, c9, c10⟩ := B1.eleven
  obtain ⟨f0, f1, f2, f3, f4, f5, f6, f7, f8, f9, f10⟩ := B0.frs
  obtain ⟨g0, g1, g2, g3, g4, g5, g6, g7, g8, g9, g10⟩ := B0.eleven
  clear B0 B1 k2 hW
  by_cases q1 : n < 3
  · have d1 : decide ((n : Int) < 3) = true := decide_eq_true (by omega)
    go_wp2_with fail
    exact bodyPost_ret (results_box11 rfl _ _ w.heap.size _ _ _ _ _ _ _ _ _ _ _ rfl (HB0.out.all _ _ _ _ _ _ _ _ _ _ _)) rfl ⟨⟨_, _, rfl, hF.out _ _ ⟨_, _, _, _, _, _, _, _, _, rfl⟩ (.inl ⟨.inl q1, by first | rfl | (simp; done) | omega⟩)⟩, K2.out.all11 (Nat.le_refl _) _ _ _ _ _ _ _ _ _ _ _⟩
  · have d1 : decide ((n : Int) < 3) = false := decide_eq_false (by omega)
    by_cases q2 : 0+3 < L
    · have d2 : decide ((3 : Int) < (L : Int)) = true := decide_eq_true (by omega)
      go_wp2_with fail
      exact bodyPost_ret (results_box11 rfl _ _ w.heap.size _ _ _ _ _ _ _ _ _ _ _ rfl (HB0.out.all _ _ _ _ _ _ _ _ _ _ _)) rfl ⟨⟨_, _, rfl, hF.out _ _ ⟨_, _, _, _, _, _, _, _, _, rfl⟩ (.inl ⟨.inr q2, by first | rfl | (simp; done) | omega⟩)⟩, K2.out.all11 (Nat.le_refl _) _ _ _ _ _ _ _ _ _ _ _⟩
    · have d2 : decide ((3 : Int) < (L : Int)) = false := decide_eq_false (by omega)
      go_wp2_with fail
      exact bodyPost_ret (results_box11 rfl _ _ w.heap.size _ _ _ _ _ _ _ _ _ _ _ rfl (HB0.out.all _ _ _ _ _ _ _ _ _ _ _)) rfl ⟨⟨_, _, rfl, hF.out _ _ ⟨_, _, _, _, _, _, _, _, _, rfl⟩ (.inr ⟨by omega, rfl, rfl⟩)⟩, K2.out.all11 (Nat.le_refl _) _ _ _ _ _ _ _ _ _ _ _⟩
set_option maxRecDepth 100000 in
set_option maxHeartbeats 2000000 in
theorem Split_inf (s : List UInt8) (w : World) (hs : s.length ≤ 4096) (hg : cNg s = false) (hl : 0 < s.length) (hc : s.getD 0 0 = 105) :
    Calls Tryz.prog 46 #[.string ⟨s.toArray⟩] w fun e w' => (∃ T V, e = .returned (.tuple #[.agg T, .int .i64 V]) ∧ SpA s T V) ∧ Keep w w' := by
  have s1 : (ByteArray.mk s.toArray).size = s.length := sz_mk s
  have hix : ∀ wx, (Instr.index 9 (.string ⟨s.toArray⟩) (.int .i64 0)).run Tryz.prog wx = .ok (.int .u8 105) wx := fun wx => by
    have a := run_ix s 0 hl wx
    rw [hc] at a
    exact a
  have hW := fun wx => word_any s [105, 110, 102] 0 wx hs (by simp) (by omega)
  obtain ⟨n, hn⟩ : ∃ n, wrd s 0 [105, 110, 102] = n := ⟨_, rfl⟩
  rw [hn] at hW
  have hn3 : n ≤ 3 := by rw [← hn, wrd_alk]; exact (alk_le _ _).2
  have fin : ∀ T V, TSh T → _ → SpA s T V := fun T V h1 h => sp_inf (T := T) (V := V) hg hl hc n hn h1 h
  obtain ⟨L, hL⟩ : ∃ L, s.length = L := ⟨_, rfl⟩
  rw [hL] at s1 hs hl fin
  have hd0 : decide ((0 : Int) < (L : Int)) = true := decide_eq_true (by omega)
  have hdK : decide ((0 : Int) < (L : Int)) = true := decide_eq_true (by omega)
  have hF : Hid (∀ T V, TSh T → _ → SpA s T V) := fin
  clear hn hL hg hc fin
  go_enter Tryz.func46, Tryz.ntmps46
  go_wp2_with fail
  refine (hW _).mono ?_
  rintro e w2 ⟨rfl, k2⟩
  have B0 := (Bk.two w _ _).keep k2
  have B1 := (Bk.two1 w _ _).keep k2
  have K2 : Hid (Keep w w2) := (keep_two w _ _).trans k2
  have HB0 : Hid (Bk w2 w.heap.size _) := B0
  obtain ⟨c0, c1, c2, c3, c4, c5, c6, c7, c8, c9, c10⟩ := B1.eleven
  obtain ⟨f0, f1, f2, f3, f4, f5, f6, f7, f8, f9, f10⟩ := B0.frs
  obtain ⟨g0, g1, g2, g3, g4, g5, g6, g7, g8, g9, g10⟩ := B0.eleven
  clear B0 B1 k2 hW
  by_cases q1 : n < 3
  · have d1 : decide ((n : Int) < 3) = true := decide_eq_true (by omega)
    go_wp2_with fail
    exact bodyPost_ret (results_box11 rfl _ _ w.heap.size _ _ _ _ _ _ _ _ _ _ _ rfl (HB0.out.all _ _ _ _ _ _ _ _ _ _ _)) rfl ⟨⟨_, _, rfl, hF.out _ _ ⟨_, _, _, _, _, _, _, _, _, rfl⟩ (.inl ⟨.inl q1, by first | rfl | (simp; done) | omega⟩)⟩, K2.out.all11 (Nat.le_refl _) _ _ _ _ _ _ _ _ _ _ _⟩
  · have d1 : decide ((n : Int) < 3) = false := decide_eq_false (by omega)
    by_cases q2 : 0+3 < L
    · have d2 : decide ((3 : Int) < (L : Int)) = true := decide_eq_true (by omega)
      go_wp2_with fail
      exact bodyPost_ret (results_box11 rfl _ _ w.heap.size _ _ _ _ _ _ _ _ _ _ _ rfl (HB0.out.all _ _ _ _ _ _ _ _ _ _ _)) rfl ⟨⟨_, _, rfl, hF.out _ _ ⟨_, _, _, _, _, _, _, _, _, rfl⟩ (.inl ⟨.inr q2, by first | rfl | (simp; done) | omega⟩)⟩, K2.out.all11 (Nat.le_refl _) _ _ _ _ _ _ _ _ _ _ _⟩
    · have d2 : decide ((3 : Int) < (L : Int)) = false := decide_eq_false (by omega)
      go_wp2_with fail
      exact bodyPost_ret (results_box11 rfl _ _ w.heap.size _ _ _ _ _ _ _ _ _ _ _ rfl (HB0.out.all _ _ _ _ _ _ _ _ _ _ _)) rfl ⟨⟨_, _, rfl, hF.out _ _ ⟨_, _, _, _, _, _, _, _, _, rfl⟩ (.inr ⟨by omega, rfl, rfl⟩)⟩, K2.out.all11 (Nat.le_refl _) _ _ _ _ _ _ _ _ _ _ _⟩
set_option maxRecDepth 100000 in
set_option maxHeartbeats 2000000 in
theorem Split_ninf (s : List UInt8) (w : World) (hs : s.length ≤ 4096) (hg : cNg s = true) (hl : 1 < s.length) (hc : s.getD 1 0 = 105) :
    Calls Tryz.prog 46 #[.string ⟨s.toArray⟩] w fun e w' => (∃ T V, e = .returned (.tuple #[.agg T, .int .i64 V]) ∧ SpA s T V) ∧ Keep w w' := by
  have s1 : (ByteArray.mk s.toArray).size = s.length := sz_mk s
  have hix : ∀ wx, (Instr.index 9 (.string ⟨s.toArray⟩) (.int .i64 1)).run Tryz.prog wx = .ok (.int .u8 105) wx := fun wx => by
    have a := run_ix s 1 hl wx
    rw [hc] at a
    exact a
  have h00 : (s.getD 0 0).toNat = 45 := by
    unfold cNg at hg
    rw [pre_zero, tkx_at (s := s) (k := 0) (by omega)] at hg
    have := of_decide_eq_true hg
    rw [show s.getD 0 0 = 45 by simpa using this]
    rfl
  have hix0 : ∀ wx, (Instr.index 9 (.string ⟨s.toArray⟩) (.int .i64 0)).run Tryz.prog wx = .ok (.int .u8 45) wx := fun wx => by
    have a := run_ix s 0 (by omega) wx
    rw [h00] at a
    exact a
  have hW := fun wx => word_any s [105, 110, 102] 1 wx hs (by simp) (by omega)
  obtain ⟨n, hn⟩ : ∃ n, wrd s 1 [105, 110, 102] = n := ⟨_, rfl⟩
  rw [hn] at hW
  have hn3 : n ≤ 3 := by rw [← hn, wrd_alk]; exact (alk_le _ _).2
  have fin : ∀ T V, TSh T → _ → SpA s T V := fun T V h1 h => sp_ninf (T := T) (V := V) hg hl hc n hn h1 h
  obtain ⟨L, hL⟩ : ∃ L, s.length = L := ⟨_, rfl⟩
  rw [hL] at s1 hs hl fin
  have hd0 : decide ((0 : Int) < (L : Int)) = true := decide_eq_true (by omega)
  have hdK : decide ((1 : Int) < (L : Int)) = true := decide_eq_true (by omega)
  have hF : Hid (∀ T V, TSh T → _ → SpA s T V) := fin
  clear hn hL hg hc fin
  go_enter Tryz.func46, Tryz.ntmps46
  go_wp2_with fail
  refine (hW _).mono ?_
  rintro e w2 ⟨rfl, k2⟩
  have B0 := (Bk.two w _ _).keep k2
  have B1 := (Bk.two1 w _ _).keep k2
  have K2 : Hid (Keep w w2) := (keep_two w _ _).trans k2
  have HB0 : Hid (Bk w2 w.heap.size _) := B0
  obtain ⟨c0, c1, c2, c3, c4, c5, c6, c7, c8, c9, c10⟩ := B1.eleven
  obtain ⟨f0, f1, f2, f3, f4, f5, f6, f7, f8, f9, f10⟩ := B0.frs
  obtain ⟨g0, g1, g2, g3, g4, g5, g6, g7, g8, g9, g10⟩ := B0.eleven
  clear B0 B1 k2 hW
  by_cases q1 : n < 3
  · have d1 : decide ((n : Int) < 3) = true := decide_eq_true (by omega)
    go_wp2_with fail
    exact bodyPost_ret (results_box11 rfl _ _ w.heap.size _ _ _ _ _ _ _ _ _ _ _ rfl (HB0.out.all _ _ _ _ _ _ _ _ _ _ _)) rfl ⟨⟨_, _, rfl, hF.out _ _ ⟨_, _, _, _, _, _, _, _, _, rfl⟩ (.inl ⟨.inl q1, by first | rfl | (simp; done) | omega⟩)⟩, K2.out.all11 (Nat.le_refl _) _ _ _ _ _ _ _ _ _ _ _⟩
  · have d1 : decide ((n : Int) < 3) = false := decide_eq_false (by omega)
    by_cases q2 : 1+3 < L
    · have d2 : decide ((4 : Int) < (L : Int)) = true := decide_eq_true (by omega)
      go_wp2_with fail
      exact bodyPost_ret (results_box11 rfl _ _ w.heap.size _ _ _ _ _ _ _ _ _ _ _ rfl (HB0.out.all _ _ _ _ _ _ _ _ _ _ _)) rfl ⟨⟨_, _, rfl, hF.out _ _ ⟨_, _, _, _, _, _, _, _, _, rfl⟩ (.inl ⟨.inr q2, by first | rfl | (simp; done) | omega⟩)⟩, K2.out.all11 (Nat.le_refl _) _ _ _ _ _ _ _ _ _ _ _⟩
    · have d2 : decide ((4 : Int) < (L : Int)) = false := decide_eq_false (by omega)
      go_wp2_with fail
      exact bodyPost_ret (results_box11 rfl _ _ w.heap.size _ _ _ _ _ _ _ _ _ _ _ rfl (HB0.out.all _ _ _ _ _ _ _ _ _ _ _)) rfl ⟨⟨_, _, rfl, hF.out _ _ ⟨_, _, _, _, _, _, _, _, _, rfl⟩ (.inr ⟨by omega, rfl, rfl⟩)⟩, K2.out.all11 (Nat.le_refl _) _ _ _ _ _ _ _ _ _ _ _⟩
end Go.Proofs.YtpdjpjkieafnbaaGreatDoor.Li
