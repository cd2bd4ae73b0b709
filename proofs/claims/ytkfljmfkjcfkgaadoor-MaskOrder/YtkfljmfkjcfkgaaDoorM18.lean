import Derived.Test.YtkfljmfkjcfkgaaDoorM17
set_option linter.unusedVariables false
set_option linter.unusedSimpArgs false
namespace Go.Proofs.YtkfljmfkjcfkgaaDoor
open Go.RowKit Go.Shelf
/-- The nodes that lives asks of. -/
def smp : List Nd := [⟨2, 0, 1, 4602678819172646912, [], 2, 2, 1⟩, ⟨1, 30, 0, 0, [], 0, 0, 0⟩, ⟨3, 0, 0, 0, [1, 3], 1, 3, 4⟩, ⟨1, 10, 0, 0, [], 0, 0, 0⟩, ⟨1, 20, 0, 0, [], 0, 0, 0⟩]
def bsm : BT := .node 0 (.node 2 (.leaf 3) (.leaf 4)) (.leaf 1)
theorem smp_shE : shE smp = 0 := by kernel_rfl
theorem smp_bt : Bt (shp smp) bsm 0 := .node (by decide) (.node (by decide) (.leaf (by decide)) (.leaf (by decide))) (.leaf (by decide))
theorem smp_lvE : lvE smp = 0 := by kernel_rfl
theorem smp_lack : lackB smp 2 = false := by decide
theorem smp_lvG : lvG smp 2 = 0 := by unfold lvG; rw [smp_lvE, smp_lack]; rfl
theorem smp_mks : bsm.mks 0 = [(0, 0, 2), (2, 0, 1)] := by decide
theorem smp_ext : extI smp [4611686018427387904, 4603579539098121011] bsm = 2 := by kernel_rfl
theorem smp_flm : flm smp [4611686018427387904, 0] (bsm.mks 0) = [(2, 0, 1)] := by kernel_rfl
theorem smp_six : Bi.mkl bsm.nl (lftF [(2, 0, 1)]) [6] := by
  refine ⟨rfl, by intro x hx; simp at hx; omega, ?_⟩
  intro i
  by_cases h : i < 64
  · have : ∀ i, i < 64 → Bi.hs [6] i = (decide (i < bsm.nl) && lftF [(2, 0, 1)] i) := by decide
    exact this i h
  · have e1 : ([6] : List Nat).getD (i / 64) 0 = 0 := by
      rw [List.getD_eq_getElem?_getD, List.getElem?_eq_none_iff.2 (by simp; omega)]; rfl
    unfold Bi.hs
    rw [e1, show decide (i < bsm.nl) = false from decide_eq_false (by simp [bsm, BT.nl]; omega)]
    simp
end Go.Proofs.YtkfljmfkjcfkgaaDoor
