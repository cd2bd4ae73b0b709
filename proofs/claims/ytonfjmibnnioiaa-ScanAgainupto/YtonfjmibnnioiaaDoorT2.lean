import Derived.Test.YtonfjmibnnioiaaDoorT1
set_option linter.unusedVariables false
set_option linter.unusedSimpArgs false
namespace Go.Proofs.YtonfjmibnnioiaaDoor
open Go.RowKit Go.Shelf
theorem ub_eq (c d : UInt8) : ((c.toNat : Int) == (d.toNat : Int)) = decide (c = d) := by
  rw [Bool.eq_iff_iff]
  simp only [beq_iff_eq, decide_eq_true_eq]
  constructor
  · intro h; exact UInt8.toNat_inj.1 (by omega)
  · intro h; rw [h]
/-- A byte that may stand in a quoted text as it is. -/
def mqB (c : UInt8) : Bool := !(decide (c.toNat < 32 ∨ c = 127))
theorem mayQuote_any (c : UInt8) (w : World) : Calls Tryd.prog 46 #[.int .u8 (c.toNat : Nat)] w fun e w' => e = .returned (.bool (mqB c)) ∧ w' = w := by
  have e1 : ((c.toNat : Int) != 127) = !(decide (c = 127)) := by rw [← ub_eq c 127]; rfl
  have HM : Hid (mqB c = (decide ((32 : Int) ≤ (c.toNat : Int)) && !(decide (c = 127)))) := by
    unfold Hid mqB
    rw [Bool.eq_iff_iff]
    simp
    omega
  generalize decide (c = 127) = b2 at *
  by_cases h : (32 : Int) ≤ (c.toNat : Int)
  · rw [decide_eq_true h] at HM
    have h' : decide ((32 : Int) ≤ (c.toNat : Int)) = true := decide_eq_true h
    clear h
    generalize c.toNat = n at *
    cases b2 <;> (go_enter Tryd.func46, Tryd.ntmps46; go_wp2_with fail; go_ret; exact ⟨by rw [HM.out]; rfl, rfl⟩)
  · rw [decide_eq_false h] at HM
    have h' : decide ((32 : Int) ≤ (c.toNat : Int)) = false := decide_eq_false h
    clear h
    generalize c.toNat = n at *
    cases b2 <;> (go_enter Tryd.func46, Tryd.ntmps46; go_wp2_with fail; go_ret; exact ⟨by rw [HM.out]; rfl, rfl⟩)
/-- A byte at which fields can be cut. -/
def mcB (y : UInt8) : Bool := !(decide (y = 34)) && !(decide (y = 13)) && !(decide (y = 10))
theorem mayCut_any (c : UInt8) (w : World) : Calls Tryd.prog 39 #[.int .u8 (c.toNat : Nat)] w fun e w' => e = .returned (.bool (mcB c)) ∧ w' = w := by
  have e1 : ((c.toNat : Int) != 34) = !(decide (c = 34)) := by rw [← ub_eq c 34]; rfl
  have e2 : ((c.toNat : Int) != 13) = !(decide (c = 13)) := by rw [← ub_eq c 13]; rfl
  have e3 : ((c.toNat : Int) != 10) = !(decide (c = 10)) := by rw [← ub_eq c 10]; rfl
  have HM : Hid (mcB c = (!(decide (c = 34)) && !(decide (c = 13)) && !(decide (c = 10)))) := rfl
  generalize decide (c = 34) = b1 at *
  generalize decide (c = 13) = b2 at *
  generalize decide (c = 10) = b3 at *
  generalize c.toNat = n at *
  cases b1 <;> cases b2 <;> cases b3 <;> (go_enter Tryd.func39, Tryd.ntmps39; go_wp2_with fail; go_ret; exact ⟨by rw [HM.out]; rfl, rfl⟩)
end Go.Proofs.YtonfjmibnnioiaaDoor
