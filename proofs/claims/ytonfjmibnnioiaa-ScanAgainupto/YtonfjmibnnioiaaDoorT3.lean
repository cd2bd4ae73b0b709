import Derived.Test.YtonfjmibnnioiaaDoorT2
set_option linter.unusedVariables false
set_option linter.unusedSimpArgs false
namespace Go.Proofs.YtonfjmibnnioiaaDoor
open Go.RowKit Go.Shelf
def leB (c : UInt8) : Bool := (decide ((97 : Int) ≤ (c.toNat : Int)) && decide ((c.toNat : Int) ≤ 122)) || (decide ((65 : Int) ≤ (c.toNat : Int)) && decide ((c.toNat : Int) ≤ 90))
def diB (c : UInt8) : Bool := decide ((48 : Int) ≤ (c.toNat : Int)) && decide ((c.toNat : Int) ≤ 57)
def blB (c : UInt8) : Bool := decide (c = 32) || decide (c = 9)
theorem rletter_any (c : UInt8) (w : World) : Calls Tryd.prog 35 #[.int .u8 (c.toNat : Nat)] w fun e w' => e = .returned (.bool (leB c)) ∧ w' = w := by
  obtain ⟨b1, e1⟩ : ∃ b, decide ((97 : Int) ≤ (c.toNat : Int)) = b := ⟨_, rfl⟩
  obtain ⟨b2, e2⟩ : ∃ b, decide ((c.toNat : Int) ≤ 122) = b := ⟨_, rfl⟩
  obtain ⟨b3, e3⟩ : ∃ b, decide ((65 : Int) ≤ (c.toNat : Int)) = b := ⟨_, rfl⟩
  obtain ⟨b4, e4⟩ : ∃ b, decide ((c.toNat : Int) ≤ 90) = b := ⟨_, rfl⟩
  have H : Hid (leB c = ((b1 && b2) || (b3 && b4))) := by unfold Hid leB; rw [e1, e2, e3, e4]
  generalize c.toNat = n at e1 e2 e3 e4 ⊢
  cases b1 <;> cases b2 <;> cases b3 <;> cases b4 <;> (go_enter Tryd.func35, Tryd.ntmps35; go_wp2_with fail; go_ret; exact ⟨by rw [H.out]; rfl, rfl⟩)
theorem rdigit_any (c : UInt8) (w : World) : Calls Tryd.prog 36 #[.int .u8 (c.toNat : Nat)] w fun e w' => e = .returned (.bool (diB c)) ∧ w' = w := by
  obtain ⟨b1, e1⟩ : ∃ b, decide ((48 : Int) ≤ (c.toNat : Int)) = b := ⟨_, rfl⟩
  obtain ⟨b2, e2⟩ : ∃ b, decide ((c.toNat : Int) ≤ 57) = b := ⟨_, rfl⟩
  have H : Hid (diB c = (b1 && b2)) := by unfold Hid diB; rw [e1, e2]
  generalize c.toNat = n at e1 e2 ⊢
  cases b1 <;> cases b2 <;> (go_enter Tryd.func36, Tryd.ntmps36; go_wp2_with fail; go_ret; exact ⟨by rw [H.out]; rfl, rfl⟩)
theorem rblank_any (c : UInt8) (w : World) : Calls Tryd.prog 34 #[.int .u8 (c.toNat : Nat)] w fun e w' => e = .returned (.bool (blB c)) ∧ w' = w := by
  have e1 : ((c.toNat : Int) == 32) = decide (c = 32) := by rw [← ub_eq c 32]; rfl
  have e2 : ((c.toNat : Int) == 9) = decide (c = 9) := by rw [← ub_eq c 9]; rfl
  have H : Hid (blB c = (decide (c = 32) || decide (c = 9))) := rfl
  generalize decide (c = 32) = b1 at *
  generalize decide (c = 9) = b2 at *
  generalize c.toNat = n at *
  cases b1 <;> cases b2 <;> (go_enter Tryd.func34, Tryd.ntmps34; go_wp2_with fail; go_ret; exact ⟨by rw [H.out]; rfl, rfl⟩)
/-- What a hexadecimal digit says, as the program tells it. -/
def hxI (c : UInt8) : Int := if hxV c = 16 then -1 else (hxV c : Nat)
theorem rhex_any (c : UInt8) (w : World) : Calls Tryd.prog 58 #[.int .u8 (c.toNat : Nat)] w fun e w' => e = .returned (.int .i64 (hxI c)) ∧ w' = w := by
  have hD := rdigit_any c w
  have hl := UInt8.toNat_lt c
  by_cases h1 : 48 ≤ c.toNat ∧ c.toNat ≤ 57
  · have H : Hid (hxI c = (c.toNat : Int) - 48) := by unfold Hid hxI hxV; rw [if_pos h1, if_neg (by omega)]; omega
    have hd : diB c = true := by unfold diB; rw [decide_eq_true (by omega), decide_eq_true (by omega)]; rfl
    rw [hd] at hD
    obtain ⟨g1, g2⟩ := h1
    clear hd
    generalize c.toNat = n at *
    go_enter Tryd.func58, Tryd.ntmps58
    go_wp2_with (go_at_call 36; refine hD.mono ?_; rintro e w0 ⟨rfl, rfl⟩)
    go_ret
    exact ⟨by rw [H.out]; go_num, rfl⟩
  · have hd : diB c = false := by
      unfold diB
      rw [← Bool.decide_and, decide_eq_false_iff_not]; omega
    rw [hd] at hD
    clear hd
    by_cases h2 : 97 ≤ c.toNat ∧ c.toNat ≤ 102
    · have H : Hid (hxI c = (c.toNat : Int) - 87) := by unfold Hid hxI hxV; rw [if_neg h1, if_pos h2, if_neg (by omega)]; omega
      have d1 : decide ((97 : Int) ≤ (c.toNat : Int)) = true := decide_eq_true (by omega)
      have d2 : decide ((c.toNat : Int) ≤ 102) = true := decide_eq_true (by omega)
      obtain ⟨g1, g2⟩ := h2
      clear h1
      generalize c.toNat = n at *
      go_enter Tryd.func58, Tryd.ntmps58
      go_wp2_with (go_at_call 36; refine hD.mono ?_; rintro e w0 ⟨rfl, rfl⟩)
      go_ret
      exact ⟨by rw [H.out]; go_num, rfl⟩
    · by_cases h3 : 65 ≤ c.toNat ∧ c.toNat ≤ 70
      · have H : Hid (hxI c = (c.toNat : Int) - 55) := by unfold Hid hxI hxV; rw [if_neg h1, if_neg h2, if_pos h3, if_neg (by omega)]; omega
        have d1 : decide ((97 : Int) ≤ (c.toNat : Int)) = false := decide_eq_false (by omega)
        have d3 : decide ((65 : Int) ≤ (c.toNat : Int)) = true := decide_eq_true (by omega)
        have d4 : decide ((c.toNat : Int) ≤ 70) = true := decide_eq_true (by omega)
        obtain ⟨g1, g2⟩ := h3
        clear h1 h2
        generalize c.toNat = n at *
        go_enter Tryd.func58, Tryd.ntmps58
        go_wp2_with (go_at_call 36; refine hD.mono ?_; rintro e w0 ⟨rfl, rfl⟩)
        go_ret
        exact ⟨by rw [H.out]; go_num, rfl⟩
      · have H : Hid (hxI c = -1) := by unfold Hid hxI hxV; rw [if_neg h1, if_neg h2, if_neg h3, if_pos rfl]
        obtain ⟨b1, e1⟩ : ∃ b, decide ((97 : Int) ≤ (c.toNat : Int)) = b := ⟨_, rfl⟩
        obtain ⟨b2, e2⟩ : ∃ b, decide ((c.toNat : Int) ≤ 102) = b := ⟨_, rfl⟩
        obtain ⟨b3, e3⟩ : ∃ b, decide ((65 : Int) ≤ (c.toNat : Int)) = b := ⟨_, rfl⟩
        obtain ⟨b4, e4⟩ : ∃ b, decide ((c.toNat : Int) ≤ 70) = b := ⟨_, rfl⟩
        have x1 : Hid ((b1 && b2) = false) := by
          unfold Hid; rw [← e1, ← e2, ← Bool.decide_and, decide_eq_false_iff_not]; omega
        have x2 : Hid ((b3 && b4) = false) := by
          unfold Hid; rw [← e3, ← e4, ← Bool.decide_and, decide_eq_false_iff_not]; omega
        clear h1 h2 h3
        generalize c.toNat = n at *
        cases b1 <;> cases b2 <;> cases b3 <;> cases b4 <;> first
          | (exact absurd x1.out (by decide))
          | (exact absurd x2.out (by decide))
          | (go_enter Tryd.func58, Tryd.ntmps58
             go_wp2_with (go_at_call 36; refine hD.mono ?_; rintro e w0 ⟨rfl, rfl⟩)
             go_ret
             exact ⟨by rw [H.out]; rfl, rfl⟩)
end Go.Proofs.YtonfjmibnnioiaaDoor
