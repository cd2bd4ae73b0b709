import Derived.Test.YtaogjiffnebnkaaU4
import Derived.Deep.QuietTactic
import Derived.BigQuiet
set_option linter.unusedVariables false
set_option linter.unusedSimpArgs false
namespace Go.Proofs.Ytaogjiffnebnkaa
open Go.RowKit Go.Shelf Go.Maps
attribute [local go_sem] run_store_float
theorem OwnC.at {B : Nat} {w : World} {g n cap : Nat} {K : List CI} (h : OwnC B w (.slice (some ⟨g, 0, none⟩) n cap) K) {j : Nat} (hj : j < K.length) : Cu.At w g j (K.getD j Cu.d0) := by
  rcases h.2 with ⟨h1, _⟩ | ⟨g', cap', cur, hv, hg, hh, h1, h2, h3, h4⟩
  · cases h1
  · simp only [Value.slice.injEq, Option.some.injEq, Addr.mk.injEq, and_true] at hv
    obtain ⟨rfl, rfl, rfl⟩ := hv
    have e : ∀ i, i < 5 → cur[j * 5 + i]? = (UC [K.getD j Cu.d0])[i]? := by
      intro i hi
      rw [← UC_get K j i hj hi, ← h4, List.getElem?_take, if_pos (by omega), Array.getElem?_toList]
    have c : ∀ i u, i < 5 → (UC [K.getD j Cu.d0])[i]? = some u → w.cell? ⟨g, j * 5 + i, none⟩ = some u := fun i u hi hu => by rw [cell_of_row w g _ cur 57 (0, 0) hh, e i hi, hu]
    exact ⟨c 0 _ (by omega) rfl, c 1 _ (by omega) rfl, c 2 _ (by omega) rfl, c 3 _ (by omega) rfl, c 4 _ (by omega) rfl, frozen_of_row w g _ cur 57 hh, frozen_of_row w g _ cur 57 hh, frozen_of_row w g _ cur 57 hh, frozen_of_row w g _ cur 57 hh, frozen_of_row w g _ cur 57 hh⟩
end Go.Proofs.Ytaogjiffnebnkaa
