import Derived.Test.YtonfjmibnnioiaaDoorO2
import Derived.Test.YtonfjmibnnioiaaDoorJ3
import Derived.SliceStrings
import Derived.Shelf.Vars
set_option linter.unusedVariables false
set_option linter.unusedSimpArgs false
namespace Go.Proofs.YtonfjmibnnioiaaDoor
open Go.ChangeShapes Go.WideShapes Go.ChangeAt Go.RowKit
theorem cells9 : Tryd.prog.cellsOf 9 = 1 := by kernel_rfl
/-- The library's own variable holds a number, whatever the world. -/
theorem ml_of {W : World} (h : W.ShapedOpen Tryd.prog) : Ml W := cell_of_shapedOpen_int (P := Tryd.prog) (g := 1) (t := 3) (zero := #[.int .i64 0]) h (of_decide_eq_true (by kernel_rfl)) (by kernel_rfl) rfl (by kernel_rfl) (by kernel_rfl) Tryd.underlying3
theorem bulk_strs {H : Type} : ∀ ss : List ByteArray, tl (ss.map (·.data.toList)) ≤ 3 * Rows.uptoBulkAll (strs ss : List (DataW H))
  | [] => by simp [tl]
  | s :: ss => by
    have ih := bulk_strs (H := H) ss
    rw [List.map_cons, tl_cons]
    have e : Rows.uptoBulkAll (strs (s :: ss) : List (DataW H)) = s.data.toList.length + 1 + Rows.uptoBulkAll (strs ss : List (DataW H)) := rfl
    rw [e]
    omega
set_option maxRecDepth 100000 in
/-- Texts that are handed in. -/
theorem arg_texts {H : Type} {enc : TypeId × Value → H} {W : World} {base : Nat} {v : Value} {d : DataW H} {p : List MemPlace} (hv : Value.okWide Tryd.prog W .any base 32 v) (h : DataW.Trod enc Tryd.prog W 0 (fun _ => true) true 32 v d p) :
    ∃ a c L, v = .slice a L.length c ∧ L.length ≤ c ∧ RdG W a (SvL L) ∧ tl L ≤ 3 * Rows.uptoBulk d := by
  obtain ⟨a, len, cap, rfl⟩ := okWide_slice Tryd.underlying32 hv
  obtain ⟨fuel, hf⟩ := h
  rcases open_strings Tryd.underlying32 Tryd.underlying9 cells9 hf with ⟨hcs, _⟩ | ⟨x, l, c, ss, hcs, _, hl, hm, hz, hx, hcell, hwz⟩
  · simp [Value.cells] at hcs
    obtain ⟨rfl, rfl, rfl⟩ := hcs
    exact ⟨none, 0, [], rfl, Nat.le_refl _, fun j u hj => by simp [SvL] at hj, by simp [tl]⟩
  · simp [Value.cells] at hcs
    obtain ⟨rfl, rfl, rfl⟩ := hcs
    simp only [Prod.mk.injEq] at hx
    simp only [if_true] at hz
    have hlen : ((ss.take len).map (·.data.toList)).length = len := by simp; omega
    refine ⟨some x, cap, (ss.take len).map (·.data.toList), by rw [hlen], by omega, ?_, ?_⟩
    · intro j u hj
      have hjl : j < len := by
        have := (List.getElem?_eq_some_iff.1 hj).1
        simp [SvL] at this
        omega
      obtain ⟨b, off, spot⟩ := x
      have hspot : spot = none := by simpa [Addr.add] using World.cell?_spot (hcell 0 (by omega))
      subst hspot
      refine ⟨b, off, rfl, ?_⟩
      have hc := hcell j (by omega)
      rw [Go.WideShapes.add_plain] at hc
      rw [hc]
      have hjs : j < ss.length := by omega
      simp [SvL, hjl, hjs] at hj
      rw [← hj]
      simp [List.getD, hjs]
    · rw [hx.1]
      have := bulk_strs (H := H) (ss.take len)
      simp only [Rows.uptoBulk]
      omega
end Go.Proofs.YtonfjmibnnioiaaDoor
