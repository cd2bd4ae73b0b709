import Derived.Test.YtmhgpgdekaeegaaDoorProg
import Derived.Test.YtmhgpgdekaeegaaDoorOSC4
import Ieee.Arith
import Derived.WalkKit
import Derived.WalkSpells
import Derived.WalkLawsBesides
import Derived.Deep.Draws
import Derived.Deep.QuietTactic
import Derived.BigQuiet
import Derived.Laws.Externs
import Derived.RegionTactic
import Derived.Laws.Rows
import Derived.Laws.CopyOwn
import Derived.Deep.RegionLaw
import Derived.Shelf.Abstract
import Derived.Below
import Derived.BigRegion
set_option linter.unusedVariables false
set_option linter.unusedSimpArgs false
namespace Go.Proofs.YtmhgpgdekaeegaaDoor
open Go.RowKit Go.Shelf
theorem own_block {B e s n : Nat} {w : World} {v : Value} {l : List Value} (h : w.ownsRow B e s v n l) {b : Nat} (hb : v.ownBlock = some b) : B ≤ b ∧ ∃ cur, w.heap[b]? = some (.cells cur e (0, 0)) := by
  rcases h.2 with ⟨h1, _⟩ | ⟨g, cap, cur, hv, hg, hh, r⟩
  · rw [h1] at hb; cases hb
  · rw [hv] at hb
    have hb : some g = some b := hb
    simp only [Option.some.injEq] at hb
    subst hb
    exact ⟨hg, cur, hh⟩
theorem Keep.at {w w' : World} (k : Keep w w') {g : Nat} {o : Obj} (h : w.heap[g]? = some o) : w'.heap[g]? = some o := by rw [k.block g (Array.getElem?_eq_some_iff.1 h).1]; exact h
theorem Keep.le {a b : World} (h : Keep a b) : a.heap.size ≤ b.heap.size := h.size
theorem own_keep {B e s n : Nat} {w w' : World} {v : Value} {l : List Value} (h : w.ownsRow B e s v n l) (k : Keep w w') : w'.ownsRow B e s v n l := by
  refine ⟨h.1, ?_⟩
  rcases h.2 with h2 | ⟨g, cap, cur, hv, hg, hh, r⟩
  · exact .inl h2
  · exact .inr ⟨g, cap, cur, hv, hg, k.at hh, r⟩
theorem newsF (W : World) (x : Nat) : ∀ j u, (UF [x])[j]? = some u → (W.alloc (Obj.cells #[.float .f64 x] 23)).cell? ((⟨W.heap.size, 0, none⟩ : Addr).add j) = some u := by
  intro j u hj
  match j, hj with
  | 0, hj => simp [UF] at hj; subst hj; show (W.alloc _).cell? ⟨W.heap.size, 0, none⟩ = _; rw [cell_of_row _ _ _ _ 23 (0, 0) (heap_alloc_new W _)]; rfl
  | j + 1, hj => simp [UF] at hj
/-- Bits as cells. -/
def UU (l : List Nat) : List Value := l.map fun x => Value.int .u64 ((x : Nat) : Int)
end Go.Proofs.YtmhgpgdekaeegaaDoor
