import Derived.Test.YtonfjmibnnioiaaDoorU1
set_option linter.unusedVariables false
set_option linter.unusedSimpArgs false
namespace Go.Proofs.YtonfjmibnnioiaaDoor
open Go.RowKit Go.Shelf
set_option maxRecDepth 100000 in
set_option maxHeartbeats 1000000 in
theorem hexByte_any (r : List UInt8) (w : World) (hs : r.length ≤ 1099511627776) : Calls Tryd.prog 80 #[.string ⟨(92 :: 120 :: r).toArray⟩] w fun e w' => e = .returned (escV (hex2 r)) ∧ w' = w := by
  obtain ⟨l, hl⟩ : ∃ l : List UInt8, l = 92 :: 120 :: r := ⟨_, rfl⟩
  have hln : l.length = r.length + 2 := by rw [hl]; rfl
  have hsz := sz_mk l
  rw [← hl]
  replace hl : Hid _ := hl
  go_enter Tryd.func80, Tryd.ntmps80
  go_wp2_with fail
  go_loop [5, 6] (fun sd at' => (sd = .int .i64 0 ∧ at' = .int .i64 2) ∨ (∃ a r2, sd = .int .i64 (hxV a : Nat) ∧ at' = .int .i64 3 ∧ r = a :: r2 ∧ Hid (hxV a ≠ 16)) ∨ (∃ a b r3, sd = .int .i64 ((hxV a : Nat) * 16 + (hxV b : Nat)) ∧ at' = .int .i64 4 ∧ r = a :: b :: r3 ∧ Hid (hxV a ≠ 16) ∧ Hid (hxV b ≠ 16))) (fun sd at' => 4 - (intOf at').toNat)
  case atStart => exact .inl ⟨rfl, rfl⟩
  case round =>
    rcases hrel with ⟨rfl, rfl⟩ | ⟨a, r2, rfl, rfl, hr, ha⟩ | ⟨a, b, r3, rfl, rfl, hr, ha, hb⟩
    · cases r with
      | nil =>
        have hE : ((2 : Int) == (l.length : Int)) = true := by rw [hln]; rfl
        clear hln
        go_wp2_with fail
        go_ret3
        exact ⟨rfl, rfl⟩
      | cons a r2 =>
        have hE : ((2 : Int) == (l.length : Int)) = false := by rw [hln, List.length_cons, beq_eq_false_iff_ne]; omega
        have hx : ∀ w, (Instr.index 9 (.string ⟨l.toArray⟩) (.int .i64 2)).run Tryd.prog w = .ok (.int .u8 (a.toNat : Nat)) w := fun w => by
          have := run_ix l 2 (by rw [hln]; simp) w
          rw [hl.out] at this ⊢
          exact this
        have hH := hexValue_any a w
        by_cases h16 : hxV a = 16
        · have H : Hid (hex2 (a :: r2) = (none, 2)) := by unfold Hid hex2; simp only []; rw [if_pos h16]
          rw [hxI_neg a h16] at hH
          clear hln h16
          generalize a.toNat = n at hx hH
          go_wp2_with (go_at_call 86; refine hH.mono ?_; rintro e w0 ⟨rfl, hw0⟩; rw [hw0]; clear hw0)
          go_ret3
          exact ⟨by rw [H.out]; rfl, rfl⟩
        · rw [hxI_pos a h16] at hH
          have hlt := hxV_lt a h16
          have h16 : Hid (hxV a ≠ 16) := h16
          have hneg : decide (((hxV a : Nat) : Int) < 0) = false := decide_eq_false (by omega)
          clear hln
          obtain ⟨x, hx0⟩ : ∃ x, hxV a = x := ⟨_, rfl⟩
          rw [hx0] at hH hneg hlt
          generalize a.toNat = n at hx hH
          go_wp2_with (go_at_call 86; refine hH.mono ?_; rintro e w0 ⟨rfl, hw0⟩; rw [hw0]; clear hw0)
          go_round
          case rel => exact .inr (.inl ⟨a, r2, by rw [hx0], rfl, rfl, h16⟩)
          case measure => simp [intOf]
    · subst hr
      cases r2 with
      | nil =>
        have hE : ((3 : Int) == (l.length : Int)) = true := by rw [hln]; rfl
        have H : Hid (hex2 [a] = (none, 3)) := by unfold Hid hex2; simp only []; rw [if_neg ha.out]
        clear hln
        go_wp2_with fail
        go_ret3
        exact ⟨by rw [H.out]; rfl, rfl⟩
      | cons b r3 =>
        have hE : ((3 : Int) == (l.length : Int)) = false := by rw [hln, List.length_cons, List.length_cons, beq_eq_false_iff_ne]; omega
        have hx : ∀ w, (Instr.index 9 (.string ⟨l.toArray⟩) (.int .i64 3)).run Tryd.prog w = .ok (.int .u8 (b.toNat : Nat)) w := fun w => by
          have := run_ix l 3 (by rw [hln]; simp) w
          rw [hl.out] at this ⊢
          exact this
        have hH := hexValue_any b w
        by_cases h16 : hxV b = 16
        · have H : Hid (hex2 (a :: b :: r3) = (none, 3)) := by unfold Hid hex2; simp only []; rw [if_neg ha.out, if_pos h16]
          rw [hxI_neg b h16] at hH
          clear hln h16
          generalize b.toNat = n at hx hH
          go_wp2_with (go_at_call 86; refine hH.mono ?_; rintro e w0 ⟨rfl, hw0⟩; rw [hw0]; clear hw0)
          go_ret3
          exact ⟨by rw [H.out]; rfl, rfl⟩
        · rw [hxI_pos b h16] at hH
          have hlt := hxV_lt b h16
          have hlta := hxV_lt a ha.out
          have h16 : Hid (hxV b ≠ 16) := h16
          have hneg : decide (((hxV b : Nat) : Int) < 0) = false := decide_eq_false (by omega)
          clear hln
          obtain ⟨x, hx0⟩ : ∃ x, hxV b = x := ⟨_, rfl⟩
          obtain ⟨y, hy0⟩ : ∃ y, hxV a = y := ⟨_, rfl⟩
          rw [hx0] at hH hneg hlt
          rw [hy0] at hlta ⊢
          generalize b.toNat = n at hx hH
          go_wp2_with (go_at_call 86; refine hH.mono ?_; rintro e w0 ⟨rfl, hw0⟩; rw [hw0]; clear hw0)
          go_round
          case rel => exact .inr (.inr ⟨a, b, r3, by rw [hx0, hy0], rfl, rfl, ha, h16⟩)
          case measure => simp [intOf]
    · subst hr
      have hlt := hxV_lt b hb.out
      have hlta := hxV_lt a ha.out
      have H : Hid (hex2 (a :: b :: r3) = (some (UInt8.ofNat (16 * hxV a + hxV b)), 4)) := by unfold Hid hex2; simp only []; rw [if_neg ha.out, if_neg hb.out]
      have hw := ub_sixteen (hxV a) (hxV b) hlta hlt
      clear hln
      go_wp2_with (rw [hw])
      go_ret3
      exact ⟨by rw [H.out]; rfl, rfl⟩
/-- One of the plain escapes. -/
theorem esc_x (r : List UInt8) : esc (120 :: r) = hex2 r := by
  unfold esc hex2
  rfl
end Go.Proofs.YtonfjmibnnioiaaDoor
