import Derived.Test.YtmhgpgdekaeegaaDoorProg
import Derived.Test.YtmhgpgdekaeegaaDoorBMath
import Derived.WalkKit
import Derived.WalkSpells
import Derived.WalkLawsBesides
import Derived.Laws.CopyOwn
import Derived.Deep.Draws
import Derived.Deep.QuietTactic
import Derived.BigQuiet
set_option linter.unusedVariables false
set_option linter.unusedSimpArgs false
namespace Go.Proofs.YtmhgpgdekaeegaaDoor.Bi
open Go.RowKit
/-- An equation laid aside. -/
def Hid (p : Prop) : Prop := p
theorem Hid.out {p : Prop} (h : Hid p) : p := h
theorem ret_int {k : IntKind} {a b : Int} (h : a = b) : Ending.returned (.int k a) = .returned (.int k b) := by rw [h]
theorem ret_bool {a b : Bool} (h : a = b) : Ending.returned (.bool a) = .returned (.bool b) := by rw [h]
/-- Limbs as cells. -/
def U (l : List Nat) : List Value := l.map (fun x => Value.int .u64 (x : Nat))
theorem U_get (l : List Nat) (j : Nat) (h : j < l.length) : (U l)[j]? = some (.int .u64 (l.getD j 0 : Nat)) := by simp [U, List.getD, h]
/-- A block that holds limbs. -/
def Row (w : World) (g : Nat) (l : List Nat) : Prop := w.heap[g]? = some (.cells (U l).toArray 33 (0, 0))
/-- Nothing that was there has turned. -/
def Keep (w w' : World) : Prop := Below w.heap.size w w'
/-- Only block g has turned. -/
structure Mut (g : Nat) (w w' : World) : Prop where
  os : w'.os = w.os
  tape : w'.tape = w.tape
  output : w'.output = w.output
  size : w'.heap.size = w.heap.size
  block : ∀ k, k ≠ g → w'.heap[k]? = w.heap[k]?
/-- What a slice at that address reads as. -/
def Rd (w : World) (a : Option Addr) (l : List Nat) : Prop :=
  ∀ j, j < l.length → ∃ b o, a = some ⟨b, o, none⟩ ∧ w.cell? ⟨b, o + j, none⟩ = some (.int .u64 (l.getD j 0 : Nat))
/-- A slice over a block of the call's own, from its head on. -/
def Res (B : Nat) (w : World) (v : Value) (l : List Nat) : Prop :=
  (v = .slice none 0 0 ∧ l = []) ∨ ∃ g r, v = .slice (some ⟨g, 0, none⟩) l.length r.length ∧ B ≤ g ∧ Row w g r ∧ l.length ≤ r.length ∧ r.take l.length = l
theorem Row.cell {w : World} {g : Nat} {l : List Nat} (h : Row w g l) (j : Nat) (hj : j < l.length) : w.cell? ⟨g, j, none⟩ = some (.int .u64 (l.getD j 0 : Nat)) := by
  rw [cell_of_row w g j _ 33 (0, 0) h]; simpa using U_get l j hj
theorem Row.frozen {w : World} {g : Nat} {l : List Nat} (h : Row w g l) (j : Nat) : w.frozen? ⟨g, j, none⟩ = false := frozen_of_row w g j _ 33 h
theorem Row.set {w : World} {g : Nat} {l : List Nat} (h : Row w g l) (j x : Nat) : Row (w.setCell ⟨g, j, none⟩ (.int .u64 (x : Nat))) g (l.set j x) := by
  have := heap_setCell_same w g j _ 33 (.int .u64 (x : Nat)) h
  unfold Row
  rw [this]
  simp [U, List.map_set]
theorem Row.drewN {w : World} {g : Nat} {l : List Nat} (h : Row w g l) (q : Nat) : Row (w.drewN q) g l := h
theorem Row.mut {w w' : World} {g g' : Nat} {l : List Nat} (h : Row w g l) (k : Mut g' w w') (hne : g ≠ g') : Row w' g l := by
  unfold Row; rw [k.block g hne]; exact h
theorem Keep.refl (w : World) : Keep w w := Below.refl _ _
theorem Keep.trans {a b c : World} (h : Keep a b) (k : Keep b c) : Keep a c := Below.trans h (Below.mono k h.size)
theorem Keep.drewN {a b : World} (h : Keep a b) (q : Nat) : Keep a (b.drewN q) := ⟨h.os, h.tape, h.output, h.size, h.block⟩
theorem Keep.drew {a b : World} (h : Keep a b) : Keep a b.drew := Below.drew h
theorem Keep.alloc {a b : World} (h : Keep a b) (o : Obj) : Keep a (b.alloc o) := Below.alloc h h.size o
theorem Keep.mut {a b c : World} {g : Nat} (h : Keep a b) (k : Mut g b c) (hg : a.heap.size ≤ g) : Keep a c :=
  Below.trans h ⟨k.os, k.tape, k.output, by rw [k.size]; exact Nat.le_refl _, fun i hi => k.block i (by omega)⟩
theorem Keep.setCell {a b : World} (h : Keep a b) {p : Addr} (hp : a.heap.size ≤ p.block) (u : Value) : Keep a (b.setCell p u) := Below.setCell h hp u
theorem Keep.cell {a b : World} (h : Keep a b) {p : Addr} {v : Value} (hc : a.cell? p = some v) : b.cell? p = some v :=
  (Below.cell h (World.block_lt_of_cell? a p hc)).trans hc
theorem Mut.refl (g : Nat) (w : World) : Mut g w w := ⟨rfl, rfl, rfl, rfl, fun _ _ => rfl⟩
theorem Mut.trans {g : Nat} {a b c : World} (h : Mut g a b) (k : Mut g b c) : Mut g a c :=
  ⟨k.os.trans h.os, k.tape.trans h.tape, k.output.trans h.output, k.size.trans h.size, fun i hi => (k.block i hi).trans (h.block i hi)⟩
theorem Mut.drewN {g : Nat} {a b : World} (h : Mut g a b) (q : Nat) : Mut g a (b.drewN q) := ⟨h.os, h.tape, h.output, h.size, h.block⟩
theorem Mut.drew {g : Nat} {a b : World} (h : Mut g a b) : Mut g a b.drew := ⟨h.os, h.tape, h.output, h.size, h.block⟩
theorem Mut.setCell {g : Nat} {a b : World} (h : Mut g a b) (j : Nat) (u : Value) : Mut g a (b.setCell ⟨g, j, none⟩ u) :=
  h.trans ⟨rfl, rfl, rfl, by simp, fun k hk => Below.heap_setCell _ _ _ _ (by simpa using hk)⟩
theorem Mut.cell {g : Nat} {a b : World} (h : Mut g a b) {p : Addr} {v : Value} (hp : p.block ≠ g) (hc : a.cell? p = some v) : b.cell? p = some v :=
  (World.cell?_of_block (h.block p.block hp)).trans hc
/-- None of its cells lies in block g. -/
def Off (g : Nat) (a : Option Addr) (l : List Nat) : Prop := ∀ b o s, a = some ⟨b, o, s⟩ → l ≠ [] → b ≠ g
theorem Rd.mut {w w' : World} {a : Option Addr} {l : List Nat} {g : Nat} (h : Rd w a l) (k : Mut g w w') (ho : Off g a l) : Rd w' a l := by
  intro j hj
  obtain ⟨b, o, e, hc⟩ := h j hj
  exact ⟨b, o, e, k.cell (ho b o _ e (by intro h; simp [h] at hj)) hc⟩
theorem Res.mono {B B' : Nat} {w : World} {v : Value} {l : List Nat} (h : Res B w v l) (hB : B' ≤ B) : Res B' w v l := by
  rcases h with h | ⟨g, r, e, hb, hr, h1, h2⟩
  · exact .inl h
  · exact .inr ⟨g, r, e, by omega, hr, h1, h2⟩
theorem i59 : (Tryd.prog.info? 33).map (fun i => (i.zero, i.size, i.bytes)) = some (some (.int .u64 0), 1, 8) := by kernel_rfl
theorem made64 (n : Nat) : madeCells (Value.int .u64 0).cells n = (U (List.replicate n 0)).toArray := by
  have := toList_madeCells_one (.int .u64 0) n
  rw [← Array.toList_inj]
  simp only [U, List.map_replicate]
  exact this
/-- make([]uint64, n). -/
theorem wpList_make64 (w : World) {ops : Array Oper} {rest : List Oper} {o : Oper} {a : Act} {Q : Exit → Act → World → Prop}
    (hg : o.guard = none) (l c : Operand) (hop : o.op = Op.makeSlice 26 l c) (kl kc : IntKind) (L C : Int) (n : Nat) (hl : a.eval l = .int kl L) (hc : a.eval c = .int kc C) (hL : L = (n : Int)) (hC : C = (n : Int)) (hn : n ≤ 17592186044416)
    (hK : ∀ w', Row w' w.heap.size (List.replicate n 0) → Keep w w' → w'.heap.size = w.heap.size + 1 → wpList Tryd.prog ops Q rest (a.put o.dst (.slice (some ⟨w.heap.size, 0, none⟩) n n)) w') :
    wpList Tryd.prog ops Q (o :: rest) a w := by
  refine wpList_plain hg fun K hK' => ?_
  obtain ⟨i, hi, hz0, hz1, hz2⟩ := info_parts i59
  have hr := run_make (P := Tryd.prog) w 26 33 i _ Tryd.underlying26 hi hz0 kl kc n n (by omega) (by omega) (by rw [hz2]; omega) (by omega)
  subst hL
  subst hC
  rw [hz1] at hr
  unfold Oper.wp
  simp only [Int.toNat_natCast, Nat.mul_one, made64] at hr
  simp [execOp, hop, hl, hc, hr, Result.andThen]
  exact hK' _ _ (hK _ (heap_alloc_new w _) ((Keep.refl w).alloc _) (by simp))
end Go.Proofs.YtmhgpgdekaeegaaDoor.Bi
