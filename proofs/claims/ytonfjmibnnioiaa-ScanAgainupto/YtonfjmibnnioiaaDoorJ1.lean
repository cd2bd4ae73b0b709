import Derived.Test.YtonfjmibnnioiaaDoorY2
import Derived.Test.YtonfjmibnnioiaaDoorZ2
set_option linter.unusedVariables false
set_option linter.unusedSimpArgs false
namespace Go.Proofs.YtonfjmibnnioiaaDoor
open Go.RowKit Go.Shelf
/-- A field's bytes with its quotes doubled. -/
def dbl (l : List UInt8) : List UInt8 := l.flatMap fun c => if c = 34 then [34, 34] else [c]
/-- A field as it stands in a line. -/
def ft (l : List UInt8) (y : UInt8) : List UInt8 := if y ∉ l ∧ l.head? ≠ some 34 then l else 34 :: (dbl l ++ [34])
theorem dbl_len : ∀ l : List UInt8, (dbl l).length ≤ 2 * l.length
  | [] => Nat.le_refl _
  | c :: l => by
    have := dbl_len l
    unfold dbl at this ⊢
    rw [List.flatMap_cons, List.length_append, List.length_cons]
    have h1 : (if c = 34 then [34, 34] else [c] : List UInt8).length ≤ 2 := by split <;> simp
    omega
theorem ft_len (l : List UInt8) (y : UInt8) : (ft l y).length ≤ 2 * l.length + 2 := by
  have := dbl_len l
  unfold ft
  split
  · omega
  · rw [List.length_cons, List.length_append, List.length_singleton]; omega
end Go.Proofs.YtonfjmibnnioiaaDoor
