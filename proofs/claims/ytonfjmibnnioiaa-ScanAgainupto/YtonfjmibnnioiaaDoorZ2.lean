import Derived.Test.YtonfjmibnnioiaaDoorZ1
import Derived.Laws.Cover4
import Derived.Laws.IdiomStrings
set_option linter.unusedVariables false
set_option linter.unusedSimpArgs false
namespace Go.Proofs.YtonfjmibnnioiaaDoor
open Go.RowKit Go.Shelf
/-- Bytes of one's own. -/
def OwnB (B : Nat) (v : Value) (l : List UInt8) (w : World) : Prop := w.ownsRow B 5 1 v l.length (Lib.byteCells l)
theorem OwnB.nil (B : Nat) (w : World) : OwnB B (.slice none 0 0) [] w := own_nil _ _ _ _
theorem OwnB.keep {B : Nat} {v : Value} {l : List UInt8} {w w' : World} (h : OwnB B v l w) (k : Keep w w') : OwnB B v l w' := own_keep h k
theorem bc_at (l : List UInt8) (j : Nat) (h : j < l.length) : (Lib.byteCells l)[j]? = some (.int .u8 (l[j].toNat : Int)) := by
  simp [Lib.byteCells, h]
theorem OwnB.conv {B : Nat} {v : Value} {l : List UInt8} {w : World} (h : OwnB B v l w) : (convert 58 9 v).run Tryd.prog w = .ok (.string ⟨l.toArray⟩) w := by
  obtain ⟨a, c, rfl, hn, hc⟩ := own_cells h
  cases l with
  | nil =>
    rcases h.2 with ⟨h1, h2⟩ | ⟨g, cap, cur, hv, hg, hh, r1, r2⟩
    · cases h1
      rw [run_convert_bytes_string w 58 9 5 none _ _ Tryd.underlying58 Tryd.underlying5 Tryd.underlying9]; rfl
    · cases hv
      exact run_convert_bytes_back w 58 9 5 ⟨g, 0, none⟩ c [] Tryd.underlying58 Tryd.underlying5 Tryd.underlying9 (fun j hj => by simp at hj)
  | cons x r =>
    obtain ⟨b, rfl, _⟩ := hc 0 _ rfl
    refine run_convert_bytes_back w 58 9 5 ⟨b, 0, none⟩ c (x :: r) Tryd.underlying58 Tryd.underlying5 Tryd.underlying9 (fun j hj => ?_)
    obtain ⟨b', hb', hx⟩ := hc j _ (bc_at (x :: r) j hj)
    cases hb'
    rw [show ((⟨b, 0, none⟩ : Addr).add j) = ⟨b, j, none⟩ by simp [Addr.add]; intro h; omega]
    exact hx
/-- One byte more. -/
theorem OwnB.more {B : Nat} {v : Value} {l : List UInt8} {c : UInt8} {w : World} (h : w.ownsRow B 5 1 v (l.length + 1) (Lib.byteCells l ++ [.int .u8 (c.toNat : Nat)])) : OwnB B v (l ++ [c]) w := by
  show World.ownsRow _ _ _ _ _ _ _
  rw [bc_app, List.length_append, List.length_singleton]; exact h
end Go.Proofs.YtonfjmibnnioiaaDoor
