import Derived.Test.YtaogjiffnebnkaaV6
import Derived.Deep.CutRange
import Derived.Deep.CutBlock
import Derived.BigRegion
import Derived.Deep.QuietTactic
import Derived.BigQuiet
set_option linter.unusedVariables false
set_option linter.unusedSimpArgs false
namespace Go.Proofs.Ytaogjiffnebnkaa
open Go.RowKit Go.Shelf Go.Maps
attribute [local go_sem] run_store_float
theorem firE_zero {F : Int} : ∀ (ts : List (Int × List Nd)), firE ts F = 0 → ∀ j, j < ts.length → tkE (ts.getD j (0, [])).2 F = 0
  | [], _, j, hj => by simp at hj
  | t :: ts, h, j, hj => by
    unfold firE at h
    by_cases q : tkE t.2 F = 0
    · rw [if_neg (by simpa using q)] at h
      cases j with
      | zero => simpa using q
      | succ j => simpa using firE_zero ts h j (by simpa using hj)
    · rw [if_pos q] at h; exact absurd h q
end Go.Proofs.Ytaogjiffnebnkaa
