import Derived.Test.YtbjidpooociamaaDoorMath
import Derived.Test.YtbjidpooociamaaDoorProg
import Derived.WalkKit
import Derived.WalkSpells
import Derived.WalkLawsBesides
import Derived.Laws.CopyOwn
import Derived.Deep.Draws
import Derived.Deep.QuietTactic
import Derived.BigQuiet
set_option linter.unusedVariables false
set_option linter.unusedSimpArgs false
namespace Go.Proofs.YtbjidpooociamaaDoor
open Go.RowKit Lb

theorem ret_int {k : IntKind} {a b : Int} (h : a = b) : Ending.returned (.int k a) = .returned (.int k b) := by rw [h]
theorem ret_bool {a b : Bool} (h : a = b) : Ending.returned (.bool a) = .returned (.bool b) := by rw [h]

/-- Limbs as cells. -/
def U (l : List Nat) : List Value := l.map (fun x => Value.int .u32 (x : Nat))
theorem U_length (l : List Nat) : (U l).length = l.length := by simp [U]
theorem U_get (l : List Nat) (j : Nat) (h : j < l.length) : (U l)[j]? = some (.int .u32 (l.getD j 0 : Nat)) := by simp [U, List.getD, h]
theorem U_one (l : List Nat) : ∀ v ∈ U l, v.oneCell' = true := by
  intro v hv; obtain ⟨_, _, rfl⟩ := List.mem_map.1 hv; rfl
theorem U_take (l : List Nat) (n : Nat) : U (l.take n) = (U l).take n := by simp [U, List.map_take]
theorem U_drop (l : List Nat) (n : Nat) : U (l.drop n) = (U l).drop n := by simp [U, List.map_drop]
theorem U_append (l r : List Nat) : U (l ++ r) = U l ++ U r := by simp [U]

/-- A block that holds limbs. -/
def Row (w : World) (g : Nat) (l : List Nat) : Prop := w.heap[g]? = some (.cells (U l).toArray 62 (0, 0))
/-- Nothing that was there has turned. -/
def Keep (w w' : World) : Prop := Below w.heap.size w w'
/-- Only block g has turned. -/
structure Mut (g : Nat) (w w' : World) : Prop where
  os : w'.os = w.os
  tape : w'.tape = w.tape
  output : w'.output = w.output
  size : w'.heap.size = w.heap.size
  block : ∀ k, k ≠ g → w'.heap[k]? = w.heap[k]?
/-- What a slice at that address reads as. -/
def Rd (w : World) (a : Option Addr) (l : List Nat) : Prop :=
  ∀ j, j < l.length → ∃ b o, a = some ⟨b, o, none⟩ ∧ w.cell? ⟨b, o + j, none⟩ = some (.int .u32 (l.getD j 0 : Nat))
/-- A slice over a block of the call's own, from its head on. -/
def Res (B : Nat) (w : World) (v : Value) (l : List Nat) : Prop :=
  (v = .slice none 0 0 ∧ l = []) ∨ ∃ g r, v = .slice (some ⟨g, 0, none⟩) l.length r.length ∧ B ≤ g ∧ Row w g r ∧ l.length ≤ r.length ∧ r.take l.length = l

theorem Row.lt {w : World} {g : Nat} {l : List Nat} (h : Row w g l) : g < w.heap.size := (Array.getElem?_eq_some_iff.1 h).1
theorem Row.cell {w : World} {g : Nat} {l : List Nat} (h : Row w g l) (j : Nat) (hj : j < l.length) : w.cell? ⟨g, j, none⟩ = some (.int .u32 (l.getD j 0 : Nat)) := by
  rw [cell_of_row w g j _ 62 (0, 0) h]; simpa using U_get l j hj
theorem Row.frozen {w : World} {g : Nat} {l : List Nat} (h : Row w g l) (j : Nat) : w.frozen? ⟨g, j, none⟩ = false := frozen_of_row w g j _ 62 h
theorem Row.set {w : World} {g : Nat} {l : List Nat} (h : Row w g l) (j x : Nat) : Row (w.setCell ⟨g, j, none⟩ (.int .u32 (x : Nat))) g (l.set j x) := by
  have := heap_setCell_same w g j _ 62 (.int .u32 (x : Nat)) h
  unfold Row
  rw [this]
  simp [U, List.map_set]
theorem Row.drewN {w : World} {g : Nat} {l : List Nat} (h : Row w g l) (q : Nat) : Row (w.drewN q) g l := h
theorem Row.keep {w w' : World} {g : Nat} {l : List Nat} (h : Row w g l) (k : Keep w w') : Row w' g l := by
  unfold Row; rw [k.block g h.lt]; exact h
theorem Row.mut {w w' : World} {g g' : Nat} {l : List Nat} (h : Row w g l) (k : Mut g' w w') (hne : g ≠ g') : Row w' g l := by
  unfold Row; rw [k.block g hne]; exact h
theorem Row.rd {w : World} {g : Nat} {l : List Nat} (h : Row w g l) (o n : Nat) (hn : o + n ≤ l.length) : Rd w (some ⟨g, o, none⟩) ((l.drop o).take n) := by
  intro j hj
  refine ⟨g, o, rfl, ?_⟩
  have h1 : j < n := by simp at hj; omega
  rw [h.cell (o + j) (by omega)]
  simp [List.getD, h1]

theorem Keep.refl (w : World) : Keep w w := Below.refl _ _
theorem Keep.trans {a b c : World} (h : Keep a b) (k : Keep b c) : Keep a c := Below.trans h (Below.mono k h.size)
theorem Keep.drewN {a b : World} (h : Keep a b) (q : Nat) : Keep a (b.drewN q) := ⟨h.os, h.tape, h.output, h.size, h.block⟩
theorem Keep.drew {a b : World} (h : Keep a b) : Keep a b.drew := Below.drew h
theorem Keep.alloc {a b : World} (h : Keep a b) (o : Obj) : Keep a (b.alloc o) := Below.alloc h h.size o
theorem Keep.mut {a b c : World} {g : Nat} (h : Keep a b) (k : Mut g b c) (hg : a.heap.size ≤ g) : Keep a c :=
  Below.trans h ⟨k.os, k.tape, k.output, by rw [k.size]; exact Nat.le_refl _, fun i hi => k.block i (by omega)⟩
theorem Keep.setCell {a b : World} (h : Keep a b) {p : Addr} (hp : a.heap.size ≤ p.block) (u : Value) : Keep a (b.setCell p u) := Below.setCell h hp u
theorem Keep.cell {a b : World} (h : Keep a b) {p : Addr} {v : Value} (hc : a.cell? p = some v) : b.cell? p = some v :=
  (Below.cell h (World.block_lt_of_cell? a p hc)).trans hc
theorem Keep.le {a b : World} (h : Keep a b) : a.heap.size ≤ b.heap.size := h.size

theorem Mut.refl (g : Nat) (w : World) : Mut g w w := ⟨rfl, rfl, rfl, rfl, fun _ _ => rfl⟩
theorem Mut.trans {g : Nat} {a b c : World} (h : Mut g a b) (k : Mut g b c) : Mut g a c :=
  ⟨k.os.trans h.os, k.tape.trans h.tape, k.output.trans h.output, k.size.trans h.size, fun i hi => (k.block i hi).trans (h.block i hi)⟩
theorem Mut.drewN {g : Nat} {a b : World} (h : Mut g a b) (q : Nat) : Mut g a (b.drewN q) := ⟨h.os, h.tape, h.output, h.size, h.block⟩
theorem Mut.drew {g : Nat} {a b : World} (h : Mut g a b) : Mut g a b.drew := ⟨h.os, h.tape, h.output, h.size, h.block⟩
theorem Mut.setCell {g : Nat} {a b : World} (h : Mut g a b) (j : Nat) (u : Value) : Mut g a (b.setCell ⟨g, j, none⟩ u) :=
  h.trans ⟨rfl, rfl, rfl, by simp, fun k hk => Below.heap_setCell _ _ _ _ (by simpa using hk)⟩
theorem Mut.cell {g : Nat} {a b : World} (h : Mut g a b) {p : Addr} {v : Value} (hp : p.block ≠ g) (hc : a.cell? p = some v) : b.cell? p = some v :=
  (World.cell?_of_block (h.block p.block hp)).trans hc
theorem Mut.setRow (w : World) (g : Nat) (cs : Array Value) : Mut g w (w.setRow g cs) :=
  ⟨rfl, rfl, rfl, by simp, fun k hk => setRow_other w g k cs hk⟩

theorem Rd.keep {w w' : World} {a : Option Addr} {l : List Nat} (h : Rd w a l) (k : Keep w w') : Rd w' a l := by
  intro j hj
  obtain ⟨b, o, e, hc⟩ := h j hj
  exact ⟨b, o, e, k.cell hc⟩
theorem Rd.take {w : World} {a : Option Addr} {l : List Nat} (h : Rd w a l) (n : Nat) : Rd w a (l.take n) := by
  intro j hj
  have h1 : j < n ∧ j < l.length := by simp at hj; omega
  obtain ⟨b, o, e, hc⟩ := h j h1.2
  exact ⟨b, o, e, by rw [hc]; simp [List.getD, h1.1]⟩
theorem Rd.nil (w : World) (a : Option Addr) : Rd w a [] := by intro j hj; simp at hj
/-- None of its cells lies in block g. -/
def Off (g : Nat) (a : Option Addr) (l : List Nat) : Prop := ∀ b o s, a = some ⟨b, o, s⟩ → l ≠ [] → b ≠ g
theorem Rd.mut {w w' : World} {a : Option Addr} {l : List Nat} {g : Nat} (h : Rd w a l) (k : Mut g w w') (ho : Off g a l) : Rd w' a l := by
  intro j hj
  obtain ⟨b, o, e, hc⟩ := h j hj
  exact ⟨b, o, e, k.cell (ho b o _ e (by intro h; simp [h] at hj)) hc⟩
theorem Off.of_lt {w : World} {a : Option Addr} {l : List Nat} {g : Nat} (h : Rd w a l) (hg : w.heap.size ≤ g) : Off g a l := by
  intro b o s e hl
  have h0 : 0 < l.length := List.length_pos_iff.2 hl
  obtain ⟨b', o', e', hc⟩ := h 0 h0
  have := World.block_lt_of_cell? w _ hc
  rw [e] at e'
  simp at e'
  simp at this
  omega

theorem Res.keep {B : Nat} {w w' : World} {v : Value} {l : List Nat} (h : Res B w v l) (k : Keep w w') : Res B w' v l := by
  rcases h with h | ⟨g, r, e, hb, hr, h1, h2⟩
  · exact .inl h
  · exact .inr ⟨g, r, e, hb, hr.keep k, h1, h2⟩
theorem Res.mono {B B' : Nat} {w : World} {v : Value} {l : List Nat} (h : Res B w v l) (hB : B' ≤ B) : Res B' w v l := by
  rcases h with h | ⟨g, r, e, hb, hr, h1, h2⟩
  · exact .inl h
  · exact .inr ⟨g, r, e, by omega, hr, h1, h2⟩
/-- Its shape, and what it reads as. -/
theorem Res.shape {B : Nat} {w : World} {v : Value} {l : List Nat} (h : Res B w v l) : ∃ a c, v = .slice a l.length c ∧ l.length ≤ c ∧ Rd w a l := by
  rcases h with ⟨rfl, rfl⟩ | ⟨g, r, e, hb, hr, h1, h2⟩
  · exact ⟨none, 0, rfl, Nat.le_refl _, Rd.nil _ _⟩
  · refine ⟨some ⟨g, 0, none⟩, r.length, e, h1, ?_⟩
    have := hr.rd 0 l.length (by omega)
    rw [List.drop_zero, h2] at this
    exact this
/-- Cut shorter. -/
theorem Res.cut {B : Nat} {w : World} {a : Option Addr} {n c m : Nat} {l : List Nat} (h : Res B w (.slice a n c) l) (hm : m ≤ l.length) : Res B w (.slice a m c) (l.take m) := by
  rcases h with ⟨e, rfl⟩ | ⟨g, r, e, hb, hr, h1, h2⟩
  · simp at hm; simp at e; obtain ⟨rfl, rfl, rfl⟩ := e; subst hm; exact .inl ⟨rfl, rfl⟩
  · simp at e; obtain ⟨rfl, rfl, rfl⟩ := e
    refine .inr ⟨g, r, by simp [Nat.min_eq_left hm], hb, hr, by simp; omega, ?_⟩
    rw [← h2, List.take_take]; simp

theorem i62 : (Tryd.prog.info? 62).map (fun i => (i.zero, i.size, i.bytes)) = some (some (.int .u32 0), 1, 4) := by kernel_rfl
theorem s62 : (Tryd.prog.info? 62).map (·.size) = some 1 := by kernel_rfl

theorem made32 (n : Nat) : madeCells (Value.int .u32 0).cells n = (U (List.replicate n 0)).toArray := by
  have := toList_madeCells_one (.int .u32 0) n
  rw [← Array.toList_inj]
  simp only [U, List.map_replicate]
  exact this

/-- make([]uint32, n). -/
theorem wpList_make32 (w : World) {ops : Array Oper} {rest : List Oper} {o : Oper} {a : Act} {Q : Exit → Act → World → Prop}
    (hg : o.guard = none) (l c : Operand) (hop : o.op = Op.makeSlice 22 l c) (kl kc : IntKind) (L C : Int) (n : Nat) (hl : a.eval l = .int kl L) (hc : a.eval c = .int kc C) (hL : L = (n : Int)) (hC : C = (n : Int)) (hn : n ≤ 70368744177664)
    (hK : ∀ w', Row w' w.heap.size (List.replicate n 0) → Keep w w' → w'.heap.size = w.heap.size + 1 → wpList Tryd.prog ops Q rest (a.put o.dst (.slice (some ⟨w.heap.size, 0, none⟩) n n)) w') :
    wpList Tryd.prog ops Q (o :: rest) a w := by
  refine wpList_plain hg fun K hK' => ?_
  obtain ⟨i, hi, hz0, hz1, hz2⟩ := info_parts i62
  have hr := run_make (P := Tryd.prog) w 22 62 i _ Tryd.underlying22 hi hz0 kl kc n n (by omega) (by omega) (by rw [hz2]; omega) (by omega)
  subst hL
  subst hC
  rw [hz1] at hr
  unfold Oper.wp
  simp only [Int.toNat_natCast, Nat.mul_one, made32] at hr
  simp [execOp, hop, hl, hc, hr, Result.andThen]
  exact hK' _ _ (hK _ (heap_alloc_new w _) ((Keep.refl w).alloc _) (by simp))

/-- make([]uint32, 0, n). -/
theorem wpList_make32_0 (w : World) {ops : Array Oper} {rest : List Oper} {o : Oper} {a : Act} {Q : Exit → Act → World → Prop}
    (hg : o.guard = none) (l c : Operand) (hop : o.op = Op.makeSlice 22 l c) (kl kc : IntKind) (C : Int) (n : Nat) (hl : a.eval l = .int kl 0) (hc : a.eval c = .int kc C) (hC : C = (n : Int)) (hn : n ≤ 70368744177664)
    (hK : ∀ w', Row w' w.heap.size (List.replicate n 0) → Keep w w' → w'.heap.size = w.heap.size + 1 → wpList Tryd.prog ops Q rest (a.put o.dst (.slice (some ⟨w.heap.size, 0, none⟩) 0 n)) w') :
    wpList Tryd.prog ops Q (o :: rest) a w := by
  refine wpList_plain hg fun K hK' => ?_
  obtain ⟨i, hi, hz0, hz1, hz2⟩ := info_parts i62
  have hr := run_make (P := Tryd.prog) w 22 62 i _ Tryd.underlying22 hi hz0 kl kc 0 n (by omega) (by omega) (by rw [hz2]; omega) (by omega)
  subst hC
  rw [hz1] at hr
  unfold Oper.wp
  simp only [Int.toNat_natCast, Nat.mul_one, made32, Int.toNat_zero] at hr
  simp [execOp, hop, hl, hc, hr, Result.andThen]
  exact hK' _ _ (hK _ (heap_alloc_new w _) ((Keep.refl w).alloc _) (by simp))

/-- copy(dst, src) into a row of the call's own. -/
theorem wpList_copy32 {w : World} {ops : Array Oper} {rest : List Oper} {o : Oper} {a : Act} {Q : Exit → Act → World → Prop} (hgd : o.guard = none) (d s : Operand)
    (ho : o.op = .call { callee := .builtin .copy, args := #[d, s], argTypes := #[22, 22] })
    (dp sp : Option Addr) (dLen dCap sCap : Nat) (l : List Nat) (hd : a.eval d = .slice dp dLen dCap) (hs : a.eval s = .slice sp l.length sCap)
    (g off : Nat) (r : List Nat) (hg : Row w g r) (hl : l.length ≤ dLen) (hdp : l ≠ [] → dp = some ⟨g, off, none⟩) (hr : Rd w sp l) (hfit : off + l.length ≤ r.length)
    (h : ∀ w', Row w' g (r.take off ++ (l ++ r.drop (off + l.length))) → Mut g w w' → wpList Tryd.prog ops Q rest (a.put o.dst (goInt l.length)) w') :
    wpList Tryd.prog ops Q (o :: rest) a w := by
  by_cases h0 : l = []
  · subst h0
    refine wpList_copy_nothing hgd d s 22 22 ho 62 Tryd.underlying22 s62 dp sp dLen dCap 0 sCap hd hs (Nat.zero_min _) ?_
    exact h w (by simpa using hg) (Mut.refl _ _)
  · obtain rfl := hdp h0
    obtain ⟨b, o', rfl, -⟩ := hr 0 (List.length_pos_iff.2 h0)
    refine wpList_copy_own hgd d s 22 22 ho 62 Tryd.underlying22 s62 g off dLen dCap ⟨b, o', none⟩ l.length sCap hd hs _ 62 hg (U l) (by rw [U_length]; exact (Nat.min_eq_left hl).symm) ?_ (by simpa [U_length] using hfit) (U_one l) ?_
    · intro j v hv
      have hj : j < l.length := by have := (List.getElem?_eq_some_iff.1 hv).1; simpa [U_length] using this
      rw [U_get l j hj] at hv
      obtain ⟨b2, o2, e, hc⟩ := hr j hj
      simp at e
      obtain ⟨rfl, rfl⟩ := e
      rw [Addr.add_lit, hc, hv]
    · rw [U_length]
      refine h _ ?_ (Mut.setRow _ _ _)
      unfold Row
      rw [setRow_heap w g _ _ 62 _ hg]
      simp [U, List.map_take, List.map_drop]
end Go.Proofs.YtbjidpooociamaaDoor
