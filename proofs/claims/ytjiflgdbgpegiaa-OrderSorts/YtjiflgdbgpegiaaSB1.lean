import Derived.Test.YtjiflgdbgpegiaaSM
import Derived.Test.YtjiflgdbgpegiaaA4
import Derived.BigQuiet
import Derived.Deep.QuietTactic
import Derived.RegionTactic
import Derived.Laws.Rows
set_option linter.unusedVariables false
set_option linter.unusedSimpArgs false
namespace Go.Proofs.Ytjiflgdbgpegiaa
open Go.RowKit
/-- Numbers as they lie in a row that is sorted: at its beginning, perhaps with room behind. -/
def Arr (w : World) (g : Nat) (l : List Nat) : Prop := ∃ cur : Array Value, w.heap[g]? = some (.cells cur 23 (0, 0)) ∧ cur.toList.take l.length = l.map fun x => Value.float .f64 x
theorem Arr.cell {w : World} {g : Nat} {l : List Nat} (h : Arr w g l) {j : Nat} (hj : j < l.length) : w.cell? ⟨g, j, none⟩ = some (.float .f64 (l.getD j 0)) := by
  obtain ⟨cur, h1, h2⟩ := h
  have e : cur.toList[j]? = (l.map fun x => Value.float .f64 x)[j]? := by rw [← h2, List.getElem?_take, if_pos hj]
  rw [cell_of_row w g j cur 23 (0, 0) h1]
  have : cur[j]? = cur.toList[j]? := by simp
  rw [this, e]
  simp [List.getD, hj]
theorem Arr.frozen {w : World} {g : Nat} {l : List Nat} (h : Arr w g l) (j : Nat) : w.frozen? ⟨g, j, none⟩ = false := by
  obtain ⟨cur, h1, -⟩ := h
  exact frozen_of_row w g j cur 23 h1
theorem Arr.set {w : World} {g : Nat} {l : List Nat} (h : Arr w g l) (j x : Nat) : Arr (w.setCell ⟨g, j, none⟩ (.float .f64 x)) g (l.set j x) := by
  obtain ⟨cur, h1, h2⟩ := h
  refine ⟨_, heap_setCell_same w g j cur 23 _ h1, ?_⟩
  rw [List.length_set, Array.toList_setIfInBounds, List.take_set, h2, List.map_set]
/-- All but one block as it was. -/
structure Oth (g : Nat) (w w' : World) : Prop where
  os : w'.os = w.os
  tape : w'.tape = w.tape
  output : w'.output = w.output
  size : w'.heap.size = w.heap.size
  block : ∀ k, k ≠ g → w'.heap[k]? = w.heap[k]?
theorem Oth.refl (g : Nat) (w : World) : Oth g w w := ⟨rfl, rfl, rfl, rfl, fun _ _ => rfl⟩
theorem Oth.trans {g : Nat} {a b c : World} (h : Oth g a b) (k : Oth g b c) : Oth g a c := ⟨k.os.trans h.os, k.tape.trans h.tape, k.output.trans h.output, k.size.trans h.size, fun j hj => (k.block j hj).trans (h.block j hj)⟩
theorem Oth.set {g : Nat} {a b : World} (h : Oth g a b) (j : Nat) (v : Value) : Oth g a (b.setCell ⟨g, j, none⟩ v) := ⟨h.os, h.tape, h.output, by rw [World.size_setCell]; exact h.size, fun k hk => (Below.heap_setCell _ _ _ _ (by simpa using hk)).trans (h.block k hk)⟩
theorem Oth.drew {g : Nat} {a b : World} (h : Oth g a b) : Oth g a b.drew := ⟨h.os, h.tape, h.output, h.size, h.block⟩
theorem heap_drewN (w : World) (n : Nat) : (w.drewN n).heap = w.heap ∧ (w.drewN n).os = w.os ∧ (w.drewN n).tape = w.tape ∧ (w.drewN n).output = w.output := ⟨rfl, rfl, rfl, rfl⟩
theorem Arr.drewN {w : World} {g : Nat} {l : List Nat} (h : Arr w g l) (n : Nat) : Arr (w.drewN n) g l := by
  obtain ⟨cur, h1, h2⟩ := h
  exact ⟨cur, by rw [(heap_drewN w n).1]; exact h1, h2⟩
theorem Oth.drewN {g : Nat} {a b : World} (h : Oth g a b) (n : Nat) : Oth g a (b.drewN n) := by
  obtain ⟨e1, e2, e3, e4⟩ := heap_drewN b n
  exact ⟨e2.trans h.os, e3.trans h.tape, e4.trans h.output, by rw [e1]; exact h.size, fun k hk => by rw [e1]; exact h.block k hk⟩
theorem Arr.drew {w : World} {g : Nat} {l : List Nat} (h : Arr w g l) : Arr w.drew g l := h
theorem run_store_float {P : Program} {w : World} {a : Addr} {m : Mode} (k : FloatKind) (x : Nat) : (store a (.float k x) m).run P w = stored P w a (.float k x) m := run_store P w a _ m rfl
/-- Two exchanged. -/
theorem Arr.swap {w0 w : World} {g : Nat} {l : List Nat} (h : Arr w g l) (o : Oth g w0 w) (i j : Nat) {x y : Nat} :
    Arr (((w.setCell ⟨g, i, none⟩ (.float .f64 y)).setCell ⟨g, j, none⟩ (.float .f64 x))) g ((l.set i y).set j x) ∧ Oth g w0 (((w.setCell ⟨g, i, none⟩ (.float .f64 y)).setCell ⟨g, j, none⟩ (.float .f64 x))) := ⟨(h.set i y).set j x, (o.set i _).set j _⟩
end Go.Proofs.Ytjiflgdbgpegiaa
