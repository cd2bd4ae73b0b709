import Derived.Test.YtlfkdmddlnekiaaG6
set_option linter.unusedVariables false
set_option linter.unusedSimpArgs false
namespace Go.Proofs.Ytlfkdmddlnekiaa
open Go.RowKit
theorem heap4 (w : World) (g : Nat) {x0 x1 x2 x3 : Value} (v0 v1 v2 v3 : Value) (h : w.heap[g]? = some (.cells #[x0, x1, x2, x3] 26 (0, 0))) :
    ((((w.setCell ⟨g, 0, none⟩ v0).setCell ⟨g, 1, none⟩ v1).setCell ⟨g, 2, none⟩ v2).setCell ⟨g, 3, none⟩ v3).heap[g]? = some (.cells #[v0, v1, v2, v3] 26 (0, 0)) := by
  have a0 := heap_setCell_same w g 0 _ 26 v0 h
  have a1 := heap_setCell_same _ g 1 _ 26 v1 a0
  have a2 := heap_setCell_same _ g 2 _ 26 v2 a1
  have a3 := heap_setCell_same _ g 3 _ 26 v3 a2
  simpa using a3
theorem results_box4 {fn : Func} {t u : Tmp} (h : fn.results = #[.cell t 26, .tmp u]) (tmps : Array Value) (w : World) (g : Nat) (v0 v1 v2 v3 : Value) (hp : tmps.getD t undef = .pointer (some ⟨g, 0, none⟩)) (hh : w.heap[g]? = some (.cells #[v0, v1, v2, v3] 26 (0, 0))) :
    (results fn tmps).run Try.prog w = .ok (.tuple #[.agg #[v0, v1, v2, v3], tmps.getD u undef]) w := by
  have c0 := cell_of_row _ _ 0 _ 26 (0, 0) hh
  have c1 := cell_of_row _ _ 1 _ 26 (0, 0) hh
  have c2 := cell_of_row _ _ 2 _ 26 (0, 0) hh
  have c3 := cell_of_row _ _ 3 _ 26 (0, 0) hh
  simp only [List.getElem?_toArray, List.getElem?_cons_zero, List.getElem?_cons_succ] at c0 c1 c2 c3
  have hp' : (tmps[t]?).getD undef = .pointer (some ⟨g, 0, none⟩) := by simpa using hp
  simp [results, h, hp, hp', go_sem, c0, c1, c2, c3]
theorem rdv0 (w : World) : RdV w (.agg #[.int .u8 0, .string ByteArray.empty, .slice none 0 0, .slice none 0 0]) j0 :=
  RdV.mk 0 ByteArray.empty [] [] none 0 none 0 (fun _ => (.bool false, .bool false, .bool false, .bool false)) (by omega) (fun j hj => by simp at hj) (by simp) (by simp) (fun i hi => by simp at hi) (fun i hi => by simp at hi)
/-- Where a name stands first. -/
def IsAt (ns : List ByteArray) (nm : ByteArray) (p : Nat) : Prop := p < ns.length ∧ ns.getD p ByteArray.empty = nm ∧ ∀ q, q < p → ns.getD q ByteArray.empty ≠ nm
theorem isAt_one {ns : List ByteArray} {nm : ByteArray} {p q : Nat} (h : IsAt ns nm p) (g : IsAt ns nm q) : p = q := by
  rcases Nat.lt_trichotomy p q with hl | hl | hl
  · exact absurd h.2.1 (g.2.2 p hl)
  · exact hl
  · exact absurd g.2.1 (h.2.2 q hl)
/-- What Get answers. -/
def IsGet (j : J) (nm : ByteArray) (r : J) (ok : Bool) : Prop :=
  (ok = true ∧ j.k = 7 ∧ ∃ p, IsAt j.ns nm p ∧ p < j.is.length ∧ r = j.is.getD p j0) ∨ (ok = false ∧ r = j0 ∧ (j.k ≠ 7 ∨ ∀ p, IsAt j.ns nm p → j.is.length ≤ p))
theorem isGet_one {j : J} {nm : ByteArray} {r s : J} {ok fine : Bool} (h : IsGet j nm r ok) (g : IsGet j nm s fine) : r = s ∧ ok = fine := by
  rcases h with ⟨rfl, h1, p, h2, h3, rfl⟩ | ⟨rfl, rfl, h1⟩
  · rcases g with ⟨rfl, g1, q, g2, g3, rfl⟩ | ⟨rfl, rfl, g1⟩
    · rw [isAt_one h2 g2]; exact ⟨rfl, rfl⟩
    · rcases g1 with g1 | g1
      · exact absurd h1 g1
      · have := g1 p h2; omega
  · rcases g with ⟨rfl, g1, q, g2, g3, rfl⟩ | ⟨rfl, rfl, g1⟩
    · rcases h1 with h1 | h1
      · exact absurd g1 h1
      · have := h1 q g2; omega
    · exact ⟨rfl, rfl⟩
end Go.Proofs.Ytlfkdmddlnekiaa
