import Derived.Test.YtmkanofeencgpaaDoorO8
import Derived.Test.YtmkanofeencgpaaDoorA5
set_option linter.unusedVariables false
set_option linter.unusedSimpArgs false
namespace Go.Proofs.YtmkanofeencgpaaDoor
open Go.ChangeShapes Go.WideShapes Go.ChangeAt Go.RowKit
theorem oc4 : Tryd.prog.cellsOf 4 = 1 := by kernel_rfl
theorem bytes4 : Tryd.prog.bytesOf 4 = 1 := by kernel_rfl
section
variable {H : Type} {enc : TypeId × Value → H} {W : World}
theorem open_bools9 {fuel : Nat} {v : Value} {y : DataW H × List MemPlace} (hf : DataW.trod enc Tryd.prog W 0 (fun _ => true) true fuel 54 [v] = some y) (hz : Sz 54 y.1) :
    ∃ a cap l, v = .slice a (l : List Bool).length cap ∧ l.length ≤ cap ∧ RdO W a l ∧ l.length ≤ 140737488355328 := by
  rcases Go.Deep.open_slice Tryd.underlying54 hf with ⟨hcs, _⟩ | ⟨a, len, cap, m, n, D, Pl, hcs, hb, hl, hm, hmm, rfl, hx⟩
  · simp at hcs
    subst hcs
    exact ⟨none, 0, [], rfl, Nat.le_refl _, by intro j hj; simp at hj, by simp⟩
  · simp at hcs
    subst hcs
    simp only [if_true] at hmm
    subst hmm
    obtain ⟨hs, hd⟩ := hz.slice Tryd.underlying54
    rw [bytes4] at hs
    simp only [reachBytes, List.length_map, List.length_range] at hs
    rw [oc4] at hx
    have each : ∀ i, i < len → ∃ q : Bool, W.cell? ⟨a.block, a.off + i, none⟩ = some (.bool q) ∧ a.spot = none := by
      intro i hi
      obtain ⟨cs', h1, h2⟩ := hx i (by omega)
      obtain ⟨cs0, h10, h20⟩ := hx 0 (by omega)
      obtain ⟨-, -, hcell0⟩ := World.cells?_some h10
      obtain ⟨b0, rfl, -⟩ := DataW.trod_bool Tryd.underlying4 h20
      have hsp : a.spot = none := by
        have := hcell0 0 (by omega)
        simpa [Addr.add] using World.cell?_spot this
      obtain ⟨-, hlen, hcell⟩ := World.cells?_some h1
      obtain ⟨b1, rfl, -⟩ := DataW.trod_bool Tryd.underlying4 h2
      obtain ⟨b, off, sp⟩ := a
      simp only at hsp
      subst hsp
      have := hcell 0 (by omega)
      rw [Go.WideShapes.add_plain, Go.WideShapes.add_plain] at this
      exact ⟨b1, by simpa using this, rfl⟩
    obtain ⟨q, hq⟩ := Go.Deep.choose_lt each
    refine ⟨some a, m, (List.range len).map q, by simp, by simpa using hl, ?_, by simp; omega⟩
    intro j hj
    simp only [List.length_map, List.length_range] at hj
    obtain ⟨h1, h2⟩ := hq j hj
    obtain ⟨b, off, sp⟩ := a
    simp only at h2
    subst h2
    refine ⟨b, off, rfl, ?_⟩
    have : ((List.range len).map q).getD j false = q j := by simp [List.getD, hj]
    rw [this]
    exact h1
set_option maxRecDepth 100000 in
theorem arg_bools {base : Nat} {v : Value} {d : DataW H} {p : List MemPlace} (hv : Value.okWide Tryd.prog W .any base 54 v) (h : DataW.Trod enc Tryd.prog W 0 (fun _ => true) true 54 v d p) (hz : Sz 54 d) :
    ∃ a c l, v = .slice a (l : List Bool).length c ∧ l.length ≤ c ∧ RdO W a l ∧ l.length ≤ 140737488355328 := by
  obtain ⟨a, len, cap, rfl⟩ := okWide_slice Tryd.underlying54 hv
  obtain ⟨fuel, hf⟩ := h
  exact open_bools9 hf hz
end
end Go.Proofs.YtmkanofeencgpaaDoor
