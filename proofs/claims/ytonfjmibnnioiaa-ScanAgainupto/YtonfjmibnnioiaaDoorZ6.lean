import Derived.Test.YtonfjmibnnioiaaDoorZ4
import Derived.Test.YtonfjmibnnioiaaDoorZ5
set_option linter.unusedVariables false
set_option linter.unusedSimpArgs false
namespace Go.Proofs.YtonfjmibnnioiaaDoor
open Go.RowKit Go.Shelf
/-- The reference's tests, by the table's kinds. -/
theorem tests_at : ∀ n, n < 256 → ((leB (UInt8.ofNat n) || decide (UInt8.ofNat n = 95)) = decide (kd (UInt8.ofNat n) = 2)) ∧ ((diB (UInt8.ofNat n) || decide (UInt8.ofNat n = 43) || decide (UInt8.ofNat n = 45) || decide (UInt8.ofNat n = 46)) = decide (kd (UInt8.ofNat n) = 3 ∨ kd (UInt8.ofNat n) = 4 ∨ kd (UInt8.ofNat n) = 5)) ∧ (decide (UInt8.ofNat n = 34) = decide (kd (UInt8.ofNat n) = 8)) ∧ (mkB (UInt8.ofNat n) = decide (kd (UInt8.ofNat n) = 6)) ∧ (decide (UInt8.ofNat n = 33) = decide (kd (UInt8.ofNat n) = 7)) ∧ (decide (UInt8.ofNat n = 35) = decide (kd (UInt8.ofNat n) = 9)) ∧ (blB (UInt8.ofNat n) = decide (kd (UInt8.ofNat n) = 1)) ∧ (inNm (kd (UInt8.ofNat n)) = (leB (UInt8.ofNat n) || diB (UInt8.ofNat n) || decide (UInt8.ofNat n = 95) || decide (UInt8.ofNat n = 45) || decide (UInt8.ofNat n = 46))) ∧ (inNu (kd (UInt8.ofNat n)) = (leB (UInt8.ofNat n) || diB (UInt8.ofNat n) || decide (UInt8.ofNat n = 95) || decide (UInt8.ofNat n = 45) || decide (UInt8.ofNat n = 46) || decide (UInt8.ofNat n = 43))) := by decide +kernel
theorem tests_of (c : UInt8) : ((leB c || decide (c = 95)) = decide (kd c = 2)) ∧ ((diB c || decide (c = 43) || decide (c = 45) || decide (c = 46)) = decide (kd c = 3 ∨ kd c = 4 ∨ kd c = 5)) ∧ (decide (c = 34) = decide (kd c = 8)) ∧ (mkB c = decide (kd c = 6)) ∧ (decide (c = 33) = decide (kd c = 7)) ∧ (decide (c = 35) = decide (kd c = 9)) ∧ (blB c = decide (kd c = 1)) ∧ (inNm (kd c) = (leB c || diB c || decide (c = 95) || decide (c = 45) || decide (c = 46))) ∧ (inNu (kd c) = (leB c || diB c || decide (c = 95) || decide (c = 45) || decide (c = 46) || decide (c = 43))) := by
  have := tests_at c.toNat (UInt8.toNat_lt c)
  rw [of_toNat] at this
  exact this
end Go.Proofs.YtonfjmibnnioiaaDoor
