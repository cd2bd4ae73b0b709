import Derived.Test.YtgciimjcdhallaaDoorR4
import Derived.Test.YtgciimjcdhallaaDoorR5
set_option linter.unusedVariables false
set_option linter.unusedSimpArgs false
namespace Go.Proofs.YtgciimjcdhallaaDoor
open Go.RowKit Go.Shelf
/-- Both readings, of every text. -/
theorem rRead_any (s : List UInt8) (w : World) (hs : s.length ≤ 4096) :
    Calls Tryd.prog 5 #[.string ⟨s.toArray⟩] w fun e w' => (∃ V E K, e = .returned (.tuple #[.int .i64 V, .int .i64 E, .int .i64 K]) ∧ RdA s V E K) ∧ Keep w w' := by
  by_cases h0 : 0 < s.length
  · cases h : pNg s with
    | true => exact rRead_true s w hs h0 h
    | false => exact rRead_false s w hs h0 h
  · obtain rfl : s = [] := List.length_eq_zero_iff.1 (by omega)
    refine (rRead_empty w).mono ?_
    rintro e w' ⟨rfl, k⟩
    refine ⟨⟨0, 40, 0, rfl, RdA.of_bad ?_ rfl⟩, k⟩
    rintro ⟨a, -⟩
    exact absurd a (by decide)
theorem Read_any (s : List UInt8) (w : World) (hs : s.length ≤ 4096) :
    Calls Tryd.prog 4 #[.string ⟨s.toArray⟩] w fun e w' => (∃ V E K, e = .returned (.tuple #[.int .i64 V, .int .i64 E, .int .i64 K]) ∧ RdA s V E K) ∧ Keep w w' := by
  by_cases hg : rGood s
  · refine (Read_good s w hs hg).mono ?_
    rintro e w' ⟨rfl, k⟩
    exact ⟨⟨_, _, _, rfl, RdA.of_good hg rfl rfl⟩, k⟩
  · refine (Read_bad s w hs hg).mono ?_
    rintro e w' ⟨rfl, k⟩
    exact ⟨⟨_, _, _, rfl, RdA.of_bad hg rfl⟩, k⟩
end Go.Proofs.YtgciimjcdhallaaDoor
