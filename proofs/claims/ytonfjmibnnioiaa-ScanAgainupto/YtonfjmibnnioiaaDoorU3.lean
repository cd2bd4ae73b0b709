import Derived.Test.YtonfjmibnnioiaaDoorU2
set_option linter.unusedVariables false
set_option linter.unusedSimpArgs false
namespace Go.Proofs.YtonfjmibnnioiaaDoor
open Go.RowKit Go.Shelf
theorem ub_is (c d : UInt8) (k : Int) (hk : (d.toNat : Int) = k) (h : c = d) : ((c.toNat : Int) == k) = true := by rw [← hk, ub_eq]; simpa using h
theorem ub_no (c d : UInt8) (k : Int) (hk : (d.toNat : Int) = k) (h : c ≠ d) : ((c.toNat : Int) == k) = false := by rw [← hk, ub_eq]; simpa using h
set_option maxRecDepth 100000 in
set_option maxHeartbeats 1000000 in
theorem escaped_any (r : List UInt8) (w : World) (hs : r.length ≤ 1099511627776) : Calls Tryd.prog 71 #[.string ⟨(92 :: r).toArray⟩] w fun e w' => e = .returned (escV (esc r)) ∧ w' = w := by
  obtain ⟨l, hl⟩ : ∃ l : List UInt8, l = 92 :: r := ⟨_, rfl⟩
  have hln : l.length = r.length + 1 := by rw [hl]; rfl
  have hsz := sz_mk l
  rw [← hl]
  replace hl : Hid _ := hl
  cases r with
  | nil =>
    have hE : ((l.length : Int) == 1) = true := by rw [hln]; rfl
    clear hln
    go_enter Tryd.func71, Tryd.ntmps71
    go_wp2_with fail
    go_ret3
    exact ⟨rfl, rfl⟩
  | cons c r1 =>
    have hE : ((l.length : Int) == 1) = false := by rw [hln, List.length_cons, beq_eq_false_iff_ne]; omega
    have hx : ∀ w, (Instr.index 9 (.string ⟨l.toArray⟩) (.int .i64 1)).run Tryd.prog w = .ok (.int .u8 (c.toNat : Nat)) w := fun w => by
      have := run_ix l 1 (by rw [hln]; simp) w
      rw [hl.out] at this ⊢
      exact this
    rw [List.length_cons] at hs
    clear hln
    by_cases h1 : c = 34
    · have e1 := ub_is c 34 34 rfl h1
      have H : Hid (esc (c :: r1) = (some c, 2)) := by unfold Hid esc; simp only []; rw [if_pos (.inl h1)]
      clear h1
      have HV : Hid (escV (some c, 2) = .tuple #[.int .u8 (c.toNat : Nat), .int .i64 2, .bool true]) := rfl
      generalize c.toNat = n at *
      go_enter Tryd.func71, Tryd.ntmps71
      go_wp2_with fail
      go_ret3
      exact ⟨by rw [H.out, HV.out]; rfl, rfl⟩
    · have e1 := ub_no c 34 34 rfl h1
      by_cases h2 : c = 92
      · have e2 := ub_is c 92 92 rfl h2
        have H : Hid (esc (c :: r1) = (some c, 2)) := by unfold Hid esc; simp only []; rw [if_pos (.inr h2)]
        have HV : Hid (escV (some c, 2) = .tuple #[.int .u8 (c.toNat : Nat), .int .i64 2, .bool true]) := rfl
        clear h1 h2
        generalize c.toNat = n at *
        go_enter Tryd.func71, Tryd.ntmps71
        go_wp2_with fail
        go_ret3
        exact ⟨by rw [H.out, HV.out]; rfl, rfl⟩
      · have e2 := ub_no c 92 92 rfl h2
        have h12 : ¬ (c = 34 ∨ c = 92) := fun h => h.elim h1 h2
        by_cases h3 : c = 110
        · have e3 := ub_is c 110 110 rfl h3
          have H : Hid (esc (c :: r1) = (some 10, 2)) := by unfold Hid esc; simp only []; rw [if_neg h12, if_pos h3]
          clear h1 h2 h3 h12
          generalize c.toNat = n at *
          go_enter Tryd.func71, Tryd.ntmps71
          go_wp2_with fail
          go_ret3
          exact ⟨by rw [H.out]; rfl, rfl⟩
        · have e3 := ub_no c 110 110 rfl h3
          by_cases h4 : c = 116
          · have e4 := ub_is c 116 116 rfl h4
            have H : Hid (esc (c :: r1) = (some 9, 2)) := by unfold Hid esc; simp only []; rw [if_neg h12, if_neg h3, if_pos h4]
            clear h1 h2 h3 h4 h12
            generalize c.toNat = n at *
            go_enter Tryd.func71, Tryd.ntmps71
            go_wp2_with fail
            go_ret3
            exact ⟨by rw [H.out]; rfl, rfl⟩
          · have e4 := ub_no c 116 116 rfl h4
            by_cases h5 : c = 120
            · have e5 := ub_is c 120 120 rfl h5
              subst h5
              have hH := hexByte_any r1 w (by omega)
              rw [← hl.out] at hH
              rw [esc_x]
              clear h1 h2 h3 h4 h12
              have hC : ∃ x y z, escV (hex2 r1) = .tuple #[.int .u8 x, .int .i64 y, .bool z] := by
                unfold escV; split
                · exact ⟨_, _, _, rfl⟩
                · exact ⟨_, _, _, rfl⟩
              obtain ⟨x, y, z, hC⟩ := hC
              rw [hC] at hH ⊢
              generalize (120 : UInt8).toNat = n at *
              go_enter Tryd.func71, Tryd.ntmps71
              go_wp2_with (go_at_call 80; refine hH.mono ?_; rintro e w0 ⟨rfl, hw0⟩; rw [hw0]; clear hw0)
              go_ret3
              exact ⟨rfl, rfl⟩
            · have e5 := ub_no c 120 120 rfl h5
              have H : Hid (esc (c :: r1) = (none, 1)) := by unfold Hid esc; simp only []; rw [if_neg h12, if_neg h3, if_neg h4, if_neg h5]
              clear h1 h2 h3 h4 h5 h12
              generalize c.toNat = n at *
              go_enter Tryd.func71, Tryd.ntmps71
              go_wp2_with fail
              go_ret3
              exact ⟨by rw [H.out]; rfl, rfl⟩
end Go.Proofs.YtonfjmibnnioiaaDoor
