import Derived.Test.YtaogjiffnebnkaaTO4
set_option linter.unusedVariables false
set_option linter.unusedSimpArgs false
namespace Go.Proofs.Ytaogjiffnebnkaa
open Go.ChangeShapes Go.WideShapes Go.ChangeAt Go.RowKit
def W64 (l : List Nat) : Prop := ∀ j, j < l.length → l.getD j 0 < 18446744073709551616
theorem W64.all {l : List Nat} (h : W64 l) : ∀ x ∈ l, x < 18446744073709551616 := by
  intro x hx
  obtain ⟨i, hi, rfl⟩ := List.getElem_of_mem hx
  have := h i hi
  simpa [List.getD, hi] using this
section
variable {H : Type} {enc : TypeId × Value → H} {W : World}
/-- Numbers in a cell, opened. -/
theorem open_floats {fuel : Nat} {v : Value} {y : DataW H × List MemPlace} (hf : DataW.trod enc Try.prog W 0 (fun _ => true) true fuel 46 [v] = some y) (hz : Sz 46 y.1) :
    ∃ a cap l, v = .slice a (l : List Nat).length cap ∧ l.length ≤ cap ∧ RdF W a l ∧ l.length ≤ 17592186044416 ∧ W64 l := by
  rcases Go.Deep.open_slice Try.underlying46 hf with ⟨hcs, _⟩ | ⟨a, len, cap, m, n, D, Pl, hcs, hb, hl, hm, hmm, rfl, hx⟩
  · simp at hcs
    subst hcs
    exact ⟨none, 0, [], rfl, Nat.le_refl _, by intro j hj; simp at hj, by simp, by intro j hj; simp at hj⟩
  · simp at hcs
    subst hcs
    simp only [if_true] at hmm
    subst hmm
    obtain ⟨hs, hd⟩ := hz.slice Try.underlying46
    rw [bytes37] at hs
    simp only [reachBytes, List.length_map, List.length_range] at hs
    rw [cells37] at hx
    have each : ∀ i, i < len → ∃ q : Nat, W.cell? ⟨a.block, a.off + i, none⟩ = some (.float .f64 q) ∧ a.spot = none ∧ q < 18446744073709551616 := by
      intro i hi
      obtain ⟨cs', h1, h2⟩ := hx i (by omega)
      obtain ⟨cs0, h10, h20⟩ := hx 0 (by omega)
      obtain ⟨-, -, hcell0⟩ := World.cells?_some h10
      obtain ⟨b0, rfl, -⟩ := trod_float Try.underlying34 h20
      have hsp : a.spot = none := by
        have := hcell0 0 (by omega)
        simpa [Addr.add] using World.cell?_spot this
      obtain ⟨-, hlen, hcell⟩ := World.cells?_some h1
      obtain ⟨b1, rfl, hwf⟩ := trod_float Try.underlying34 h2
      obtain ⟨b, off, sp⟩ := a
      simp only at hsp
      subst hsp
      have := hcell 0 (by omega)
      rw [Go.WideShapes.add_plain, Go.WideShapes.add_plain] at this
      exact ⟨b1, by simpa using this, rfl, bounds_f64 hwf⟩
    obtain ⟨q, hq⟩ := Go.Deep.choose_lt each
    refine ⟨some a, m, (List.range len).map q, by simp, by simpa using hl, ?_, by simp; omega, ?_⟩
    rotate_left
    · intro j hj
      simp only [List.length_map, List.length_range] at hj
      have : ((List.range len).map q).getD j 0 = q j := by simp [List.getD, hj]
      rw [this]; exact (hq j hj).2.2
    intro j hj
    simp only [List.length_map, List.length_range] at hj
    obtain ⟨h1, h2, -⟩ := hq j hj
    obtain ⟨b, off, sp⟩ := a
    simp only at h2
    subst h2
    refine ⟨b, off, rfl, ?_⟩
    have : ((List.range len).map q).getD j 0 = q j := by simp [List.getD, hj]
    rw [this]
    exact h1
set_option maxRecDepth 100000 in
theorem arg_floats {base : Nat} {v : Value} {d : DataW H} {p : List MemPlace} (hv : Value.okWide Try.prog W .any base 46 v) (h : DataW.Trod enc Try.prog W 0 (fun _ => true) true 46 v d p) (hz : Sz 46 d) :
    ∃ a c l, v = .slice a (l : List Nat).length c ∧ l.length ≤ c ∧ RdF W a l ∧ l.length ≤ 17592186044416 ∧ W64 l := by
  obtain ⟨a, len, cap, rfl⟩ := okWide_slice Try.underlying46 hv
  obtain ⟨fuel, hf⟩ := h
  exact open_floats hf hz
end
end Go.Proofs.Ytaogjiffnebnkaa
