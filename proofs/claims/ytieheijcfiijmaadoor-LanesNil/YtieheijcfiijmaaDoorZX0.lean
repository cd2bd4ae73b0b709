import Derived.Test.YtieheijcfiijmaaDoorProg
import Derived.Deep.RegionLaw
import Derived.Shelf.Abstract
import Derived.Below
import Derived.WalkKit
import Derived.WalkSpells
import Derived.WalkLawsBesides
import Derived.Deep.Draws
import Derived.Deep.QuietTactic
import Derived.BigQuiet
import Derived.Laws.Externs
import Derived.Laws.CopyOwn
import Derived.BigRegion
set_option linter.unusedVariables false
set_option linter.unusedSimpArgs false
namespace Go.Proofs.YtieheijcfiijmaaDoor
open Go.RowKit Go.Shelf
/-- An equation laid aside. -/
def Hid (p : Prop) : Prop := p
theorem Hid.out {p : Prop} (h : Hid p) : p := h
theorem ret_bool {a b : Bool} (h : a = b) : Ending.returned (.bool a) = .returned (.bool b) := by rw [h]
/-- Nothing that was there has turned. -/
def Keep (w w' : World) : Prop := Below w.heap.size w w'
theorem Keep.refl (w : World) : Keep w w := Below.refl _ _
theorem Keep.trans {a b c : World} (h : Keep a b) (k : Keep b c) : Keep a c := Below.trans h (Below.mono k h.size)
theorem Keep.alloc {a b : World} (h : Keep a b) (o : Obj) : Keep a (b.alloc o) := Below.alloc h h.size o
theorem Keep.setCell {a b : World} (h : Keep a b) {p : Addr} (hp : a.heap.size ≤ p.block) (u : Value) : Keep a (b.setCell p u) := Below.setCell h hp u
theorem Keep.cell {a b : World} (h : Keep a b) {p : Addr} {v : Value} (hc : a.cell? p = some v) : b.cell? p = some v :=
  (Below.cell h (World.block_lt_of_cell? a p hc)).trans hc
theorem Keep.le {a b : World} (h : Keep a b) : a.heap.size ≤ b.heap.size := h.size
/-- Whole numbers that can be read. -/
def RdI (w : World) (a : Option Addr) (l : List Int) : Prop :=
  ∀ j, j < l.length → ∃ b o, a = some ⟨b, o, none⟩ ∧ w.cell? ⟨b, o + j, none⟩ = some (.int .i64 (l.getD j 0))
theorem RdI.keep {w w' : World} {a : Option Addr} {l : List Int} (h : RdI w a l) (k : Keep w w') : RdI w' a l := by
  intro j hj
  obtain ⟨b, o, e, hc⟩ := h j hj
  exact ⟨b, o, e, k.cell hc⟩
theorem RdI.nil (w : World) (a : Option Addr) : RdI w a [] := by intro j hj; simp at hj
/-- No number: as the language compares. -/
def nanB (x : Nat) : Bool := !(FloatKind.f64.format.order x x == some .eq)
theorem IsNaN_any (x : Nat) (w : World) :
    Calls Tryd.prog 31 #[.float .f64 x] w fun e w' => e = .returned (.bool (nanB x)) ∧ w' = w := by
  go_enter Tryd.func31, Tryd.ntmps31
  go_wp2
  go_ret
  exact ⟨ret_bool rfl, rfl⟩
theorem neq_set (W : World) (g j : Nat) (v : Value) : ∀ k, k ≠ g → (W.setCell ⟨g, j, none⟩ v).heap[k]? = W.heap[k]? := fun k hk => Below.heap_setCell _ _ _ _ (by simpa using hk)
/-- Numbers that can be read, by their bits. -/
def RdF (w : World) (a : Option Addr) (l : List Nat) : Prop :=
  ∀ j, j < l.length → ∃ b o, a = some ⟨b, o, none⟩ ∧ w.cell? ⟨b, o + j, none⟩ = some (.float .f64 (l.getD j 0))
theorem RdF.keep {w w' : World} {a : Option Addr} {l : List Nat} (h : RdF w a l) (k : Keep w w') : RdF w' a l := by
  intro j hj
  obtain ⟨b, o, e, hc⟩ := h j hj
  exact ⟨b, o, e, k.cell hc⟩
theorem run_store_float {P : Program} {w : World} {a : Addr} {m : Mode} (k : FloatKind) (x : Nat) : (store a (.float k x) m).run P w = stored P w a (.float k x) m := run_store P w a _ m rfl
/-- Whole numbers as cells. -/
def UZ (l : List Int) : List Value := l.map (fun x => Value.int .i64 x)
theorem UZ_get (l : List Int) (j : Nat) (h : j < l.length) : (UZ l)[j]? = some (.int .i64 (l.getD j 0)) := by simp [UZ, List.getD, h]
/-- A list of whole numbers with memory of its own. -/
def OwnZ (E B : Nat) (w : World) (v : Value) (l : List Int) : Prop := w.ownsRow B E 1 v l.length (UZ l)
theorem OwnZ.same {E B : Nat} {w w' : World} {v : Value} {l : List Int} (h : OwnZ E B w v l) (k : ∀ b, v.ownBlock = some b → w'.heap[b]? = w.heap[b]?) : OwnZ E B w' v l := by
  refine ⟨h.1, ?_⟩
  rcases h.2 with h2 | ⟨g, cap, cur, hv, hg, hh, r⟩
  · exact .inl h2
  · exact .inr ⟨g, cap, cur, hv, hg, by rw [k g (by rw [hv]; rfl)]; exact hh, r⟩
theorem OwnZ.block {E B : Nat} {w : World} {v : Value} {l : List Int} (h : OwnZ E B w v l) {b : Nat} (hb : v.ownBlock = some b) : B ≤ b ∧ ∃ cur, w.heap[b]? = some (.cells cur E (0, 0)) := by
  rcases h.2 with ⟨h1, _⟩ | ⟨g, cap, cur, hv, hg, hh, r⟩
  · rw [h1] at hb; cases hb
  · rw [hv] at hb
    have hb : some g = some b := hb
    simp only [Option.some.injEq] at hb
    subst hb
    exact ⟨hg, cur, hh⟩
theorem OwnZ.keep {E B : Nat} {w w' : World} {v : Value} {l : List Int} (h : OwnZ E B w v l) (k : Keep w w') : OwnZ E B w' v l :=
  h.same (fun b hb => by obtain ⟨_, cur, hh⟩ := h.block hb; exact k.block b (Array.getElem?_eq_some_iff.1 hh).1)
theorem OwnZ.mono {E B B' : Nat} {w : World} {v : Value} {l : List Int} (h : OwnZ E B w v l) (hB : B' ≤ B) : OwnZ E B' w v l := by
  refine ⟨h.1, ?_⟩
  rcases h.2 with h2 | ⟨g, cap, cur, hv, hg, r⟩
  · exact .inl h2
  · exact .inr ⟨g, cap, cur, hv, by omega, r⟩
theorem OwnZ.nil (E B : Nat) (w : World) : OwnZ E B w (.slice none 0 0) [] := ⟨rfl, .inl ⟨rfl, rfl⟩⟩
theorem OwnZ.shape {E B : Nat} {w : World} {v : Value} {l : List Int} (h : OwnZ E B w v l) : ∃ a c, v = .slice a l.length c ∧ l.length ≤ c ∧ RdI w a l := by
  rcases h.2 with ⟨h1, h2⟩ | ⟨g, cap, cur, hv, hg, hh, h1, h2, h3, h4⟩
  · exact ⟨none, 0, by rw [h1, h2], by omega, fun j hj => by omega⟩
  · refine ⟨some ⟨g, 0, none⟩, cap, hv, h1, ?_⟩
    intro j hj
    refine ⟨g, 0, rfl, ?_⟩
    rw [Nat.zero_add, cell_of_row w g j cur E (0, 0) hh, ← UZ_get l j hj, ← h4]
    simp [hj]
/-- A cell written over. -/
theorem OwnZ.set {E B : Nat} {w : World} {g c : Nat} {l : List Int} (h : OwnZ E B w (.slice (some ⟨g, 0, none⟩) l.length c) l) (j : Nat) (hj : j < l.length) (x : Int) : OwnZ E B (w.setCell ⟨g, j, none⟩ (.int .i64 x)) (.slice (some ⟨g, 0, none⟩) l.length c) (l.set j x) ∧ w.frozen? ⟨g, j, none⟩ = false := by
  rcases h.2 with ⟨h1, h2⟩ | ⟨g', cap, cur, hv, hg, hh, h1, h2, h3, h4⟩
  · cases h1
  · simp only [Value.slice.injEq, Option.some.injEq, Addr.mk.injEq, and_true, true_and] at hv
    obtain ⟨rfl, rfl⟩ := hv
    refine ⟨⟨by simp [UZ], .inr ⟨g, c, cur.setIfInBounds j (.int .i64 x), by simp, hg, heap_setCell_same w g j cur E _ hh, by simpa using h1, h2, by simpa using h3, ?_⟩⟩, frozen_of_row w g j cur E hh⟩
    rw [Array.toList_setIfInBounds]
    simp only [List.length_set, Nat.mul_one] at h4 ⊢
    rw [List.take_set, h4]
    simp [UZ, List.map_set]
end Go.Proofs.YtieheijcfiijmaaDoor
