import Derived.Test.YtjbiknnichfajaaM1
import Derived.Deep.RegionLaw
import Derived.Shelf.Abstract
import Derived.Below
import Derived.Laws.CopyOwn
import Derived.BigRegion
import Derived.Deep.RegionHeld3
set_option linter.unusedVariables false
set_option linter.unusedSimpArgs false
namespace Go.Proofs.Ytjbiknnichfajaa
open Go.RowKit Go.Shelf
/-- Nothing that was there has turned. -/
def Keep (w w' : World) : Prop := Below w.heap.size w w'
theorem Keep.refl (w : World) : Keep w w := Below.refl _ _
theorem Keep.trans {a b c : World} (h : Keep a b) (k : Keep b c) : Keep a c := Below.trans h (Below.mono k h.size)
theorem Keep.drewN {a b : World} (h : Keep a b) (q : Nat) : Keep a (b.drewN q) := ⟨h.os, h.tape, h.output, h.size, h.block⟩
theorem Keep.drew {a b : World} (h : Keep a b) : Keep a b.drew := Below.drew h
theorem Keep.alloc {a b : World} (h : Keep a b) (o : Obj) : Keep a (b.alloc o) := Below.alloc h h.size o
theorem Keep.setCell {a b : World} (h : Keep a b) {p : Addr} (hp : a.heap.size ≤ p.block) (u : Value) : Keep a (b.setCell p u) := Below.setCell h hp u
theorem Keep.cell {a b : World} (h : Keep a b) {p : Addr} {v : Value} (hc : a.cell? p = some v) : b.cell? p = some v :=
  (Below.cell h (World.block_lt_of_cell? a p hc)).trans hc
theorem Keep.le {a b : World} (h : Keep a b) : a.heap.size ≤ b.heap.size := h.size
/-- Whole numbers that can be read. -/
def RdI (w : World) (a : Option Addr) (l : List Int) : Prop :=
  ∀ j, j < l.length → ∃ b o, a = some ⟨b, o, none⟩ ∧ w.cell? ⟨b, o + j, none⟩ = some (.int .i64 (l.getD j 0))
theorem RdI.keep {w w' : World} {a : Option Addr} {l : List Int} (h : RdI w a l) (k : Keep w w') : RdI w' a l := by
  intro j hj
  obtain ⟨b, o, e, hc⟩ := h j hj
  exact ⟨b, o, e, k.cell hc⟩
theorem RdI.nil (w : World) (a : Option Addr) : RdI w a [] := by intro j hj; simp at hj
theorem neq_set (W : World) (g j : Nat) (v : Value) : ∀ k, k ≠ g → (W.setCell ⟨g, j, none⟩ v).heap[k]? = W.heap[k]? := fun k hk => Below.heap_setCell _ _ _ _ (by simpa using hk)
/-- Numbers that can be read, by their bits. -/
def RdF (w : World) (a : Option Addr) (l : List Nat) : Prop :=
  ∀ j, j < l.length → ∃ b o, a = some ⟨b, o, none⟩ ∧ w.cell? ⟨b, o + j, none⟩ = some (.float .f64 (l.getD j 0))
theorem RdF.keep {w w' : World} {a : Option Addr} {l : List Nat} (h : RdF w a l) (k : Keep w w') : RdF w' a l := by
  intro j hj
  obtain ⟨b, o, e, hc⟩ := h j hj
  exact ⟨b, o, e, k.cell hc⟩
theorem run_store_float {P : Program} {w : World} {a : Addr} {m : Mode} (k : FloatKind) (x : Nat) : (store a (.float k x) m).run P w = stored P w a (.float k x) m := run_store P w a _ m rfl
end Go.Proofs.Ytjbiknnichfajaa
