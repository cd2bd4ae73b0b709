import Derived.Test.YtaogjiffnebnkaaU1
import Derived.Test.YtaogjiffnebnkaaFl
import Derived.Deep.QuietTactic
set_option linter.unusedVariables false
set_option linter.unusedSimpArgs false
namespace Go.Proofs.Ytaogjiffnebnkaa
open Go.RowKit Go.Shelf Go.Maps
/-- An item of a row of one's own, written. -/
theorem OwnC.put {B : Nat} {w : World} {g n cap : Nat} {K : List CI} (h : OwnC B w (.slice (some ⟨g, 0, none⟩) n cap) K) (j : Nat) (x : CI) (hj : j < K.length) : OwnC B (Cu.put w g j x) (.slice (some ⟨g, 0, none⟩) n cap) (K.set j x) := by
  rcases h.2 with ⟨h1, _⟩ | ⟨g', cap', cur, hv, hg, hh, h1, h2, h3, h4⟩
  · cases h1
  · simp only [Value.slice.injEq, Option.some.injEq, Addr.mk.injEq, and_true] at hv
    obtain ⟨rfl, rfl, rfl⟩ := hv
    refine ⟨by rw [UC_length], .inr ⟨g, cap, _, by rw [List.length_set], hg, heap_setCell_same _ g (j * 5 + 4) _ 57 _ (heap_setCell_same _ g (j * 5 + 3) _ 57 _ (heap_setCell_same _ g (j * 5 + 2) _ 57 _ (heap_setCell_same _ g (j * 5 + 1) _ 57 _ (heap_setCell_same _ g (j * 5) _ 57 _ hh)))), by rw [List.length_set]; exact h1, h2, ?_, ?_⟩⟩
    · simp; exact h3
    · rw [List.length_set, Cu.U_set K j x hj, ← h4]
      simp only [Array.toList_setIfInBounds, List.take_set]
end Go.Proofs.Ytaogjiffnebnkaa
