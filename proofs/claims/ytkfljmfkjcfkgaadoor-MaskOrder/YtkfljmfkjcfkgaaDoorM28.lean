import Derived.Test.YtkfljmfkjcfkgaaDoorM23
import Derived.Test.YtkfljmfkjcfkgaaDoorBH5
set_option linter.unusedVariables false
set_option linter.unusedSimpArgs false
namespace Go.Proofs.YtkfljmfkjcfkgaaDoor
open Go.RowKit Go.Shelf
/-- In whatever order marks are taken, and however often, the same is left. -/
theorem lftF_all {S fl : List (Nat × Nat × Nat)} (h : ∀ x ∈ S, x ∈ fl) : lftF (S ++ fl.reverse) = lftF fl := by
  funext i
  unfold lftF
  rw [Bool.eq_iff_iff, List.all_eq_true, List.all_eq_true]
  constructor
  · intro h1 x hx
    exact h1 x (List.mem_append.2 (.inr (List.mem_reverse.2 hx)))
  · intro h1 x hx
    rcases List.mem_append.1 hx with hx | hx
    · exact h1 x (h x hx)
    · exact h1 x (List.mem_reverse.1 hx)
theorem has_ext {n e : Nat} {f : Nat → Bool} {l : List Nat} (h : Bi.mkl n f l) (he : e < n) (h1 : f e = true) : Bi.hasI l (e : Int) = true := by
  unfold Bi.hasI
  rw [decide_eq_true (by omega), Int.toNat_natCast, h.2.2, decide_eq_true he, h1]
  rfl
theorem rank_ext {n e : Nat} {f : Nat → Bool} {l : List Nat} (h : Bi.mkl n f l) (h2 : ∀ p, p < e → f p = false) : Bi.rankI l (e : Int) = 0 := by
  unfold Bi.rankI
  rw [if_neg (by omega), Int.toNat_natCast]
  unfold Bi.cn
  rw [List.countP_eq_zero]
  intro p hp
  rw [h.2.2, h2 p (List.mem_range.1 hp)]
  simp
theorem drop_rev {α : Type} (l : List α) (j : Nat) (h : j < l.length) (d : α) : (l.drop j).reverse = (l.drop (j + 1)).reverse ++ [l.getD j d] := by
  rw [List.drop_eq_getElem_cons h, List.reverse_cons, List.getD_eq_getElem?_getD, List.getElem?_eq_getElem h]
  rfl
end Go.Proofs.YtkfljmfkjcfkgaaDoor
