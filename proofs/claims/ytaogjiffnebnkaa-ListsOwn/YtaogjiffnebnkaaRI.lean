import Derived.RegionTactic
import Derived.Orders
set_option linter.unusedVariables false
namespace Go.Proofs.Ytaogjiffnebnkaa
section
variable {P : Program} {ops : Array Oper} {Q : Exit → Act → World → Prop}
theorem listed_set {l : Array Bool} {i j : Nat} (h : (l.setIfInBounds i true).getD j false = true) : j = i ∨ l.getD j false = true := by
  by_cases e : j = i
  · exact .inl e
  · rw [getD_set_ne false (Ne.symm e)] at h
    exact .inr h
end
end Go.Proofs.Ytaogjiffnebnkaa
