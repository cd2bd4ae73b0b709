import Derived.Test.YtmkanofeencgpaaDoorQ9
set_option linter.unusedVariables false
set_option linter.unusedSimpArgs false
namespace Go.Proofs.YtmkanofeencgpaaDoor
open Go.RowKit Go.Shelf
/-- What the reference's Check holds between two rounds. -/
structure CIk (w wr : World) (cs : Array Value) : Prop where
  kp : Keep w wr
  b0 : wr.heap[w.heap.size]? = some (.cells cs 26 (0, 0))
  b1 : wr.heap[w.heap.size + 1]? = some (.cells #[.int .i64 0, .int .i64 0, .int .i64 0] 30 (0, 0))
theorem CIk.keep {w wr w' : World} {cs : Array Value} (h : CIk w wr cs) (k : Keep wr w') : CIk w w' cs := ⟨h.kp.trans k, k.at h.b0, k.at h.b1⟩
/-- .. with the broken rule's box. -/
structure CIb (w wr : World) (cs : Array Value) (g : Nat) (x0 x1 x2 : Int) : Prop extends CIk w wr cs where
  bb : wr.heap[g]? = some (.cells #[.int .i64 x0, .int .i64 x1, .int .i64 x2] 30 (0, 0))
theorem CIb.keep {w wr w' : World} {cs : Array Value} {g : Nat} {x0 x1 x2 : Int} (h : CIb w wr cs g x0 x1 x2) (k : Keep wr w') : CIb w w' cs g x0 x1 x2 := ⟨h.toCIk.keep k, k.at h.bb⟩
theorem CIb.set {w wr : World} {cs : Array Value} {g : Nat} {x0 x1 x2 : Int} (h : CIb w wr cs g x0 x1 x2) (hg : w.heap.size + 1 < g) (y0 y1 y2 : Int) : CIb w (((wr.setCell ⟨g, 0, none⟩ (.int .i64 y0)).setCell ⟨g, 1, none⟩ (.int .i64 y1)).setCell ⟨g, 2, none⟩ (.int .i64 y2)) cs g y0 y1 y2 := by
  have e : ∀ i, i ≠ g → (((wr.setCell ⟨g, 0, none⟩ (.int .i64 y0)).setCell ⟨g, 1, none⟩ (.int .i64 y1)).setCell ⟨g, 2, none⟩ (.int .i64 y2)).heap[i]? = wr.heap[i]? := fun i hi => by rw [neq_set _ g 2 _ i hi, neq_set _ g 1 _ i hi, neq_set _ g 0 _ i hi]
  exact ⟨⟨keep3 h.kp g (by omega) _ _ _, (e _ (by omega)).trans h.b0, (e _ (by omega)).trans h.b1⟩, heap3 wr g _ _ _ h.bb⟩
theorem chB_eq (nm : ByteArray) (fs : List ByteArray) (N : Int) (base : List Int) (ts : List (Int × List Nd)) : chB nm fs N base ts = if (or3 (hdS nm fs.length) (ftB fs) (ctS N base.length ts.length)).1 = 0 then (if (tsB N fs.length ts).1 = 0 then ouB base ts else tsB N fs.length ts) else or3 (hdS nm fs.length) (ftB fs) (ctS N base.length ts.length) := by
  show chF (bsC nm fs N base ts) 5 0 = _
  have h4 : (bsC nm fs N base ts 4).1 = 0 → bsC nm fs N base ts 4 = (0, 0, 0) := bsC_zero nm fs N base ts 4
  simp only [chF]
  show (if (hdS nm fs.length).1 = 0 then (if (ftB fs).1 = 0 then (if (ctS N base.length ts.length).1 = 0 then (if (tsB N fs.length ts).1 = 0 then (if (ouB base ts).1 = 0 then (0, 0, 0) else ouB base ts) else tsB N fs.length ts) else ctS N base.length ts.length) else ftB fs) else hdS nm fs.length) = _
  have h5 : (if (ouB base ts).1 = 0 then ((0, 0, 0) : Bk) else ouB base ts) = ouB base ts := by
    split
    · rename_i h; exact (h4 h).symm
    · rfl
  rw [h5]
  unfold or3
  by_cases a : (hdS nm fs.length).1 = 0
  · rw [if_pos a, if_pos a]
    by_cases b : (ftB fs).1 = 0
    · rw [if_pos b, if_pos b]
    · rw [if_neg b, if_neg b, if_neg b]
  · rw [if_neg a, if_neg a, if_neg a]
theorem or3_zero {nm : ByteArray} {fs : List ByteArray} {N : Int} {bl tl : Nat} (h : (or3 (hdS nm fs.length) (ftB fs) (ctS N bl tl)).1 = 0) : or3 (hdS nm fs.length) (ftB fs) (ctS N bl tl) = (0, 0, 0) ∧ (ctS N bl tl).1 = 0 := by
  unfold or3 at h ⊢
  by_cases a : (hdS nm fs.length).1 = 0
  · rw [if_pos a] at h ⊢
    by_cases b : (ftB fs).1 = 0
    · rw [if_pos b] at h ⊢
      exact ⟨sel_zero _ _ _ h (by intro x hx; simp at hx; rcases hx with rfl | rfl | rfl <;> simp), h⟩
    · rw [if_neg b] at h; exact absurd h b
  · rw [if_neg a] at h; exact absurd h a
end Go.Proofs.YtmkanofeencgpaaDoor
