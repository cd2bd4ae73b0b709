import Derived.Test.YtonfjmibnnioiaaDoorX1
import Derived.WalkMore
set_option linter.unusedVariables false
set_option linter.unusedSimpArgs false
namespace Go.Proofs.YtonfjmibnnioiaaDoor
open Go.RowKit Go.Shelf
set_option maxRecDepth 100000 in
set_option maxHeartbeats 2000000 in
theorem IndexRune_high (r : Int) (w : World) (h128 : 128 ≤ r) (hv : Utf8.valid r = true) (hne : r ≠ 65533) : Calls Tryd.prog 67 #[.string ⟨#[13, 10]⟩, .int .i32 r] w fun e w' => e = .returned (.int .i64 (-1)) ∧ Keep w w' := by
  obtain ⟨f1, f2, f3⟩ := encode_facts r hv h128
  have hV := ValidRune_any r w
  rw [← validRune_eq, hv] at hV
  have d0 : decide ((0 : Int) ≤ r) = true := decide_eq_true (by omega)
  have d1 : decide (r < 128) = false := decide_eq_false (by omega)
  have d2 : (r == 65533) = false := by rw [beq_eq_false_iff_ne]; exact hne
  obtain ⟨s, hs⟩ : ∃ s : ByteArray, s = ⟨#[13, 10]⟩ := ⟨_, rfl⟩
  rw [← hs]
  have hsz : s.size = 2 := by rw [hs]; rfl
  have hx1 : ∀ w, (Instr.index 9 (.string s) (.int .i64 1)).run Tryd.prog w = .ok (.int .u8 10) w := fun w => by
    have := run_ix [13, 10] 1 (by decide) w
    rw [hs]; exact this
  have hsl : ∀ w, (Instr.slice 9 (.string s) (some (.int .i64 2)) none none).run Tryd.prog w = .ok (.string ⟨([] : List UInt8).toArray⟩) w := fun w => by
    have := run_from [13, 10] 2 (by decide) w
    rw [hs]; exact this
  obtain ⟨E, hE⟩ : ∃ E, Utf8.encode r = E := ⟨_, rfl⟩
  rw [hE] at f1 f2 f3
  replace hs : Hid _ := hs
  have hcv : ∀ w, (convert 21 9 (.int .i32 r)).run Tryd.prog w = .ok (.string E) w := fun w => by
    rw [run_convert_int_string w 21 9 .i32 r (by rw [Tryd.underlying21]; rfl) Tryd.underlying9, hE]
  clear hv hne h128
  have hcase : E.size = 2 ∨ E.size = 3 ∨ E.size = 4 := by omega
  rcases hcase with h2 | h2 | h2
  · have f4 := f3 (by omega)
    have hg : ∀ w, (Instr.index 9 (.string E) (.int .i64 1)).run Tryd.prog w = .ok (.int .u8 ((E[E.size - 1]'(by omega)).toNat : Nat)) w := fun w => by
      have h1 : (0 : Int) ≤ (1 : Int) ∧ (1 : Int) < (E.size : Int) := by omega
      rw [run_index_string w 9 _ .i64 1 Tryd.underlying9, dif_pos h1]
      have : ∀ i j, (hi : i < E.size) → (hj : j < E.size) → i = j → E[i]'hi = E[j]'hj := fun i j hi hj e => by subst e; rfl
      rw [this ((1 : Int).toNat) (E.size - 1) (by omega) (by omega) (by rw [h2]; rfl)]
    have hI : ∀ w, Calls Tryd.prog 60 #[.string ByteArray.empty, .int .u8 ((E[E.size - 1]'(by omega)).toNat : Nat)] w fun e w' => e = .returned (.int .i64 (-1)) ∧ w' = w := fun w => IndexByte_any [] (E[E.size - 1]'(by omega)) w
    generalize (E[E.size - 1]'(by omega)).toNat = x at *
    have hxn : ((10 : Int) != (x : Int)) = true := by rw [bne_iff_ne]; omega
    clear f1 f2 f3
    go_enter Tryd.func67, Tryd.ntmps67
    go_wp2_with (go_at_call 77; refine hV.mono ?_; rintro e' w0 ⟨rfl, hw0⟩; rw [hw0]; clear hw0)
    refine wp_scope_straight ?_
    go_wp2_with fail
    go_loop [9, 10] (fun i f => i = .int .i64 1 ∧ f = .int .i64 0) (fun _ _ => 0)
    case atStart => exact ⟨rfl, rfl⟩
    case round =>
      obtain ⟨rfl, rfl⟩ := hrel
      go_wp2
      refine wp_scope_straight ?_
      go_wp2
      go_region
      go_wp2
      go_region_with (go_at_call 60; refine (hI _).mono ?_; rintro e' w0 ⟨rfl, hw0⟩; rw [hw0]; clear hw0)
      go_wp2
      all_goals
        simp +zetaDelta only [Exit.noGoto_ret, Exit.inBlock, Exit.then]
        go_ret
        exact ⟨rfl, (Keep.refl w).drewN 2⟩
  · clear f1 f2 f3 hx1 hsl
    go_enter Tryd.func67, Tryd.ntmps67
    go_wp2_with (go_at_call 77; refine hV.mono ?_; rintro e' w0 ⟨rfl, hw0⟩; rw [hw0]; clear hw0)
    refine wp_scope_straight ?_
    go_wp2_with fail
    go_loop [9, 10] (fun i f => i = .int .i64 2 ∧ f = .int .i64 0) (fun _ _ => 0)
    case atStart => exact ⟨rfl, rfl⟩
    case round =>
      obtain ⟨rfl, rfl⟩ := hrel
      go_wp2_with fail
      go_ret
      exact ⟨rfl, Keep.refl w⟩
  · clear f1 f2 f3 hx1 hsl
    go_enter Tryd.func67, Tryd.ntmps67
    go_wp2_with (go_at_call 77; refine hV.mono ?_; rintro e' w0 ⟨rfl, hw0⟩; rw [hw0]; clear hw0)
    refine wp_scope_straight ?_
    go_wp2_with fail
    go_loop [9, 10] (fun i f => i = .int .i64 3 ∧ f = .int .i64 0) (fun _ _ => 0)
    case atStart => exact ⟨rfl, rfl⟩
    case round =>
      obtain ⟨rfl, rfl⟩ := hrel
      go_wp2_with fail
      go_ret
      exact ⟨rfl, Keep.refl w⟩
end Go.Proofs.YtonfjmibnnioiaaDoor
