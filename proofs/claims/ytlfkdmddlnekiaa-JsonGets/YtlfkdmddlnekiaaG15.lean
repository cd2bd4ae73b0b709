import Derived.Test.YtlfkdmddlnekiaaG14
set_option linter.unusedVariables false
set_option linter.unusedSimpArgs false
namespace Go.Proofs.Ytlfkdmddlnekiaa
open Go.RowKit
set_option maxRecDepth 100000 in
set_option maxHeartbeats 1000000 in
theorem GrowS_nil (n : Nat) (w : World) (hn : n ≤ 8796093022208) : Calls Try.prog 14 #[.slice none 0 0, .int .i64 n] w fun e w' => ∃ a c, e = .returned (.slice a 0 c) ∧ OwnS w.heap.size w' (.slice a 0 c) [] ∧ Keep w w' := by
  have c0 : decide ((n : Int) < 0) = false := decide_eq_false (by omega)
  by_cases h0 : n = 0
  · subst h0
    go_enter Try.func14, Try.ntmps14
    go_wp2_with fail
    go_ret
    exact ⟨_, _, rfl, OwnS.nil _ _, Keep.refl _⟩
  · have c1 : decide ((n : Int) > 0) = true := decide_eq_true (by omega)
    have c2 : decide (0 < (n : Int)) = true := decide_eq_true (by omega)
    have hnb : n ≤ 140737488355328 := by omega
    obtain ⟨i0, hi, hz0, hz1, hz2⟩ := info_parts i9
    have hr := fun ty => Lib.run_append_nil_zeros (P := Try.prog) w 23 3 ty 9 i0 _ .i64 .i64 Try.underlying23 Try.underlying3 hi hz0 n (by omega) (by omega) (by omega) (by rw [hz2]; omega)
    obtain ⟨C, hC, hC1, hC2⟩ : ∃ C, grownCap w n 0 9 = C ∧ n ≤ C ∧ C ≤ maxLen := ⟨_, rfl, grownCap_ge _ _ _ _, grownCap_le_maxLen _ _ _ _ (by simp only [maxLen]; omega)⟩
    rw [hC] at hr
    obtain ⟨Z, hZ, hZs⟩ : ∃ Z, Builtin.zeroCells (Value.string ByteArray.empty).cells n ++ Builtin.zeroCells (Value.string ByteArray.empty).cells (C - n) = Z ∧ Z.size = C * 1 := ⟨_, rfl, by rw [Array.size_append, size_zeroCells, size_zeroCells]; show n * 1 + (C - n) * 1 = C * 1; omega⟩
    rw [hZ] at hr
    have kf : Keep w (w.drew.alloc (.cells Z 9)) := (Keep.refl w).drew.alloc _
    have hO : OwnS w.heap.size (w.drew.alloc (.cells Z 9)) (.slice (some ⟨w.heap.size, 0, none⟩) 0 C) [] := ⟨rfl, .inr ⟨w.heap.size, C, Z, rfl, Nat.le_refl _, heap_alloc_new w.drew _, Nat.zero_le _, hC2, hZs, by simp [US]⟩⟩
    have hCm : C ≤ 9223372036854775807 := by simp only [maxLen] at hC2; omega
    replace hr : Hid _ := hr
    replace hO : Hid _ := hO
    clear hZ hZs hC hC2
    go_enter Try.func14, Try.ntmps14
    go_wp2_with (at_builtin; refine Lib.wpList_append_run _ rfl _ _ _ _ rfl _ _ rfl rfl _ _ (hr.out _) ?_)
    go_ret
    exact ⟨_, _, rfl, hO.out, kf⟩
set_option maxRecDepth 100000 in
set_option maxHeartbeats 1000000 in
theorem GrowJ_nil (n : Nat) (w : World) (hn : n ≤ 1954687338268) : Calls Try.prog 15 #[.slice none 0 0, .int .i64 n] w fun e w' => ∃ a c, e = .returned (.slice a 0 c) ∧ OwnJ w.heap.size w' (.slice a 0 c) [] ∧ Keep w w' := by
  have c0 : decide ((n : Int) < 0) = false := decide_eq_false (by omega)
  by_cases h0 : n = 0
  · subst h0
    go_enter Try.func15, Try.ntmps15
    go_wp2_with fail
    go_ret
    exact ⟨_, _, rfl, OwnJ.nil _ _, Keep.refl _⟩
  · have c1 : decide ((n : Int) > 0) = true := decide_eq_true (by omega)
    have c2 : decide (0 < (n : Int)) = true := decide_eq_true (by omega)
    have hnb : n ≤ 140737488355328 := by omega
    obtain ⟨i0, hi, hz0, hz1, hz2⟩ := info_parts i26
    have hr := fun ty => Lib.run_append_nil_zeros (P := Try.prog) w 24 3 ty 26 i0 _ .i64 .i64 Try.underlying24 Try.underlying3 hi hz0 n (by omega) (by omega) (by omega) (by rw [hz2]; omega)
    obtain ⟨C, hC, hC1, hC2⟩ : ∃ C, grownCap w n 0 26 = C ∧ n ≤ C ∧ C ≤ maxLen := ⟨_, rfl, grownCap_ge _ _ _ _, grownCap_le_maxLen _ _ _ _ (by simp only [maxLen]; omega)⟩
    rw [hC] at hr
    obtain ⟨Z, hZ, hZs⟩ : ∃ Z, Builtin.zeroCells (Value.agg #[.int .u8 0, .string ByteArray.empty, .slice none 0 0, .slice none 0 0]).cells n ++ Builtin.zeroCells (Value.agg #[.int .u8 0, .string ByteArray.empty, .slice none 0 0, .slice none 0 0]).cells (C - n) = Z ∧ Z.size = C * 4 := ⟨_, rfl, by rw [Array.size_append, size_zeroCells, size_zeroCells]; show n * 4 + (C - n) * 4 = C * 4; omega⟩
    rw [hZ] at hr
    have kf : Keep w (w.drew.alloc (.cells Z 26)) := (Keep.refl w).drew.alloc _
    have hO : OwnJ w.heap.size (w.drew.alloc (.cells Z 26)) (.slice (some ⟨w.heap.size, 0, none⟩) 0 C) [] := ⟨rfl, .inr ⟨w.heap.size, C, Z, rfl, Nat.le_refl _, heap_alloc_new w.drew _, Nat.zero_le _, hC2, hZs, by simp [UJ]⟩⟩
    have hCm : C ≤ 9223372036854775807 := by simp only [maxLen] at hC2; omega
    replace hr : Hid _ := hr
    replace hO : Hid _ := hO
    clear hZ hZs hC hC2
    go_enter Try.func15, Try.ntmps15
    go_wp2_with (at_builtin; refine Lib.wpList_append_run _ rfl _ _ _ _ rfl _ _ rfl rfl _ _ (hr.out _) ?_)
    go_ret
    exact ⟨_, _, rfl, hO.out, kf⟩
end Go.Proofs.Ytlfkdmddlnekiaa
