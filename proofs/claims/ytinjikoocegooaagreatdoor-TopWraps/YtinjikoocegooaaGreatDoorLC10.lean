import Derived.Test.YtinjikoocegooaaGreatDoorProg
import Derived.WalkKit
import Derived.WalkSpells
import Derived.WalkLawsBesides
import Derived.Laws.CopyOwn
import Derived.Deep.Draws
import Derived.Deep.QuietTactic
import Derived.BigQuiet
import Derived.Laws.MathBits
set_option linter.unusedVariables false
set_option linter.unusedSimpArgs false
namespace Lb
/-- The natural that limbs say, the lowest first. -/
def val : List Nat → Nat
  | [] => 0
  | x :: xs => x + 4294967296 * val xs
def Lim (l : List Nat) : Prop := ∀ x ∈ l, x < 4294967296
/-- How many limbs are left when the needless ones are gone. -/
def nl : List Nat → Nat
  | [] => 0
  | x :: xs => if nl xs = 0 then (if x = 0 then 0 else 1) else nl xs + 1
/-- The last limb is not 0. -/
def Nrm (l : List Nat) : Prop := l.getLastD 1 ≠ 0
theorem nl_le (l : List Nat) : nl l ≤ l.length := by
  induction l with
  | nil => simp [nl]
  | cons x xs ih => simp only [nl, List.length_cons]; split <;> (try split) <;> omega
theorem nl_zero (l : List Nat) : ∀ j, nl l ≤ j → l.getD j 0 = 0 := by
  induction l with
  | nil => intro j _; simp
  | cons x xs ih =>
    intro j hj
    simp only [nl] at hj
    cases j with
    | zero => split at hj <;> (try split at hj) <;> simp_all
    | succ j => 
      rw [List.getD_cons_succ]
      apply ih
      split at hj <;> (try split at hj) <;> omega
theorem nl_top (l : List Nat) (h : 0 < nl l) : l.getD (nl l - 1) 0 ≠ 0 := by
  induction l with
  | nil => simp [nl] at h
  | cons x xs ih =>
    simp only [nl] at h ⊢
    split
    · rename_i h0
      simp only [h0] at h
      split
      · simp_all
      · simpa
    · rename_i h0
      have := ih (by omega)
      rw [show nl xs + 1 - 1 = (nl xs - 1) + 1 from by omega, List.getD_cons_succ]
      exact this
/-- What a loop from the end finds is nl. -/
theorem nl_eq (l : List Nat) (n : Nat) (hz : ∀ j, n ≤ j → l.getD j 0 = 0) (ht : 0 < n → l.getD (n - 1) 0 ≠ 0) : nl l = n := by
  rcases Nat.lt_trichotomy (nl l) n with h | h | h
  · exact absurd (nl_zero l (n - 1) (by omega)) (ht (by omega))
  · exact h
  · exact absurd (hz (nl l - 1) (by omega)) (nl_top l (by omega))
theorem val_append (a b : List Nat) : val (a ++ b) = val a + 4294967296 ^ a.length * val b := by
  induction a with
  | nil => simp [val]
  | cons x xs ih => simp only [List.cons_append, val, ih, List.length_cons, Nat.pow_succ]; rw [Nat.mul_add, ← Nat.mul_assoc, Nat.mul_comm 4294967296 (4294967296 ^ _)]; omega
theorem val_zeros (l : List Nat) (h : ∀ j, l.getD j 0 = 0) : val l = 0 := by
  induction l with
  | nil => rfl
  | cons x xs ih =>
    have h0 := h 0
    have := ih (fun j => by have := h (j + 1); simpa using this)
    simp at h0
    simp [val, this, h0]
theorem val_take_nl (l : List Nat) : val (l.take (nl l)) = val l := by
  have e := val_append (l.take (nl l)) (l.drop (nl l))
  rw [List.take_append_drop] at e
  rw [e, val_zeros (l.drop (nl l))]
  · omega
  · intro j; have := nl_zero l (nl l + j) (by omega); simpa [List.getD] using this
theorem Nrm_take (l : List Nat) : Nrm (l.take (nl l)) := by
  unfold Nrm
  by_cases h : nl l = 0
  · simp [h]
  · have ht := nl_top l (by omega)
    have hle := nl_le l
    have hlen : (l.take (nl l)).length = nl l := by simp; omega
    rw [List.getLastD_eq_getLast?, List.getLast?_eq_getElem?, hlen, List.getElem?_take_of_lt (by omega)]
    rw [List.getD] at ht
    rw [List.getElem?_eq_getElem (by omega)] at ht ⊢
    simpa using ht
theorem Lim_take {l : List Nat} (h : Lim l) (n : Nat) : Lim (l.take n) := fun x hx => h x (List.mem_of_mem_take hx)
theorem Lim_getD {l : List Nat} (h : Lim l) (j : Nat) : l.getD j 0 < 4294967296 := by
  by_cases hj : j < l.length
  · have := h (l[j]) (List.getElem_mem hj); simpa [List.getD, hj] using this
  · simp [List.getD, List.getElem?_eq_none (by omega : l.length ≤ j)]
theorem val_lt {l : List Nat} (h : Lim l) : val l < 4294967296 ^ l.length := by
  induction l with
  | nil => simp [val]
  | cons x xs ih =>
    have h1 : x < 4294967296 := h x (by simp)
    have h2 := ih (fun y hy => h y (by simp [hy]))
    simp only [val, List.length_cons, Nat.pow_succ]
    omega
theorem val_ge {l : List Nat} (hn : Nrm l) (h : l ≠ []) : 4294967296 ^ (l.length - 1) ≤ val l := by
  induction l with
  | nil => exact absurd rfl h
  | cons x xs ih =>
    cases xs with
    | nil => unfold Nrm at hn; simp at hn; simp [val]; omega
    | cons y ys =>
      have h2 := ih (by unfold Nrm at hn ⊢; simpa using hn) (by simp)
      simp only [List.length_cons] at h2 ⊢
      rw [show ys.length + 1 + 1 - 1 = (ys.length + 1 - 1) + 1 from by omega, Nat.pow_succ]
      rw [val]
      omega
/-- Two naturals without needless limbs that say the same are alike. -/
theorem val_inj : ∀ {a b : List Nat}, Lim a → Lim b → Nrm a → Nrm b → val a = val b → a = b := by
  intro a
  induction a with
  | nil =>
    intro b _ _ _ hb e
    cases b with
    | nil => rfl
    | cons y ys =>
      have := val_ge hb (by simp)
      have h1 : 0 < 4294967296 ^ ((y :: ys).length - 1) := Nat.pos_of_ne_zero (by simp)
      simp only [val] at e this; omega
  | cons x xs ih =>
    intro b ha hb na nb e
    cases b with
    | nil =>
      have := val_ge na (by simp)
      have h1 : 0 < 4294967296 ^ ((x :: xs).length - 1) := Nat.pos_of_ne_zero (by simp)
      simp only [val] at e this; omega
    | cons y ys =>
      have hx : x < 4294967296 := ha x (by simp)
      have hy : y < 4294967296 := hb y (by simp)
      simp only [val] at e
      have e1 : x = y := by omega
      have e2 : val xs = val ys := by omega
      have n1 : Nrm xs := by
        unfold Nrm at na ⊢
        cases xs with
        | nil => simp
        | cons z zs => simpa using na
      have n2 : Nrm ys := by
        unfold Nrm at nb ⊢
        cases ys with
        | nil => simp
        | cons z zs => simpa using nb
      rw [e1, ih (fun z hz => ha z (by simp [hz])) (fun z hz => hb z (by simp [hz])) n1 n2 e2]
theorem val_set (l : List Nat) (j x : Nat) (hj : j < l.length) : val (l.set j x) + l.getD j 0 * 4294967296 ^ j = val l + x * 4294967296 ^ j := by
  induction l generalizing j with
  | nil => simp at hj
  | cons y ys ih =>
    cases j with
    | zero => simp [val]; omega
    | succ j =>
      have := ih j (by simpa using hj)
      simp only [List.set_cons_succ, val, List.getD_cons_succ, Nat.pow_succ]
      have e1 : ys.getD j 0 * (4294967296 ^ j * 4294967296) = 4294967296 * (ys.getD j 0 * 4294967296 ^ j) := by rw [← Nat.mul_assoc, Nat.mul_comm]
      have e2 : x * (4294967296 ^ j * 4294967296) = 4294967296 * (x * 4294967296 ^ j) := by rw [← Nat.mul_assoc, Nat.mul_comm]
      rw [e1, e2]
      omega
theorem val_take_succ (l : List Nat) (k : Nat) : val (l.take (k + 1)) = val (l.take k) + l.getD k 0 * 4294967296 ^ k := by
  induction l generalizing k with
  | nil => simp [val]
  | cons y ys ih =>
    cases k with
    | zero => simp [val]
    | succ k =>
      have := ih k
      simp only [List.take_succ_cons, val, List.getD_cons_succ, Nat.pow_succ, this]
      have e1 : ys.getD k 0 * (4294967296 ^ k * 4294967296) = 4294967296 * (ys.getD k 0 * 4294967296 ^ k) := by rw [← Nat.mul_assoc, Nat.mul_comm]
      rw [e1]; omega
theorem Lim_set {l : List Nat} (h : Lim l) (j x : Nat) (hx : x < 4294967296) : Lim (l.set j x) := by
  intro y hy
  rcases List.mem_or_eq_of_mem_set hy with h1 | h1
  · exact h y h1
  · omega
theorem addStep (rk : List Nat) (j t x y V : Nat) (hj : j < rk.length) (hx : rk.getD j 0 = x) (hv : val rk + t * 4294967296 ^ j = V) :
    val (rk.set j ((t + (x + y)) % 4294967296)) + ((t + (x + y)) / 4294967296) * 4294967296 ^ (j + 1) = V + y * 4294967296 ^ j := by
  have h1 := val_set rk j ((t + (x + y)) % 4294967296) hj
  rw [hx] at h1
  have h2 : (t + (x + y)) * 4294967296 ^ j = (t + (x + y)) / 4294967296 * 4294967296 ^ (j + 1) + (t + (x + y)) % 4294967296 * 4294967296 ^ j := by
    rw [Nat.pow_succ, Nat.mul_comm (4294967296 ^ j) 4294967296, ← Nat.mul_assoc, ← Nat.add_mul, Nat.div_add_mod']
  rw [Nat.add_mul, Nat.add_mul] at h2
  omega
theorem val_ge_pow {l : List Nat} (_h : Lim l) (j t : Nat) (V : Nat) (hj : l.length ≤ j) (ht : 0 < t) (hv : val l + t * 4294967296 ^ j = V) (hV : V < 4294967296 ^ l.length) : False := by
  have h1 : 4294967296 ^ l.length ≤ 4294967296 ^ j := Nat.pow_le_pow_right (by omega) hj
  have h2 : 4294967296 ^ j ≤ t * 4294967296 ^ j := Nat.le_mul_of_pos_left _ ht
  omega
end Lb
set_option linter.unusedVariables false
set_option linter.unusedSimpArgs false
namespace Go.Proofs.YtinjikoocegooaaGreatDoor.Li
open Go.RowKit Lb
theorem ret_int {k : IntKind} {a b : Int} (h : a = b) : Ending.returned (.int k a) = .returned (.int k b) := by rw [h]
/-- Limbs as cells. -/
def U (l : List Nat) : List Value := l.map (fun x => Value.int .u32 (x : Nat))
theorem U_length (l : List Nat) : (U l).length = l.length := by simp [U]
theorem U_get (l : List Nat) (j : Nat) (h : j < l.length) : (U l)[j]? = some (.int .u32 (l.getD j 0 : Nat)) := by simp [U, List.getD, h]
theorem U_one (l : List Nat) : ∀ v ∈ U l, v.oneCell' = true := by
  intro v hv; obtain ⟨_, _, rfl⟩ := List.mem_map.1 hv; rfl
/-- A block that holds limbs. -/
def Row (w : World) (g : Nat) (l : List Nat) : Prop := w.heap[g]? = some (.cells (U l).toArray 62 (0, 0))
/-- Nothing that was there has turned. -/
def Keep (w w' : World) : Prop := Below w.heap.size w w'
/-- Only block g has turned. -/
structure Mut (g : Nat) (w w' : World) : Prop where
  os : w'.os = w.os
  tape : w'.tape = w.tape
  output : w'.output = w.output
  size : w'.heap.size = w.heap.size
  block : ∀ k, k ≠ g → w'.heap[k]? = w.heap[k]?
/-- What a slice at that address reads as. -/
def Rd (w : World) (a : Option Addr) (l : List Nat) : Prop :=
  ∀ j, j < l.length → ∃ b o, a = some ⟨b, o, none⟩ ∧ w.cell? ⟨b, o + j, none⟩ = some (.int .u32 (l.getD j 0 : Nat))
/-- A slice over a block of the call's own, from its head on. -/
def Res (B : Nat) (w : World) (v : Value) (l : List Nat) : Prop :=
  (v = .slice none 0 0 ∧ l = []) ∨ ∃ g r, v = .slice (some ⟨g, 0, none⟩) l.length r.length ∧ B ≤ g ∧ Row w g r ∧ l.length ≤ r.length ∧ r.take l.length = l
theorem Row.lt {w : World} {g : Nat} {l : List Nat} (h : Row w g l) : g < w.heap.size := (Array.getElem?_eq_some_iff.1 h).1
theorem Row.cell {w : World} {g : Nat} {l : List Nat} (h : Row w g l) (j : Nat) (hj : j < l.length) : w.cell? ⟨g, j, none⟩ = some (.int .u32 (l.getD j 0 : Nat)) := by
  rw [cell_of_row w g j _ 62 (0, 0) h]; simpa using U_get l j hj
theorem Row.frozen {w : World} {g : Nat} {l : List Nat} (h : Row w g l) (j : Nat) : w.frozen? ⟨g, j, none⟩ = false := frozen_of_row w g j _ 62 h
theorem Row.set {w : World} {g : Nat} {l : List Nat} (h : Row w g l) (j x : Nat) : Row (w.setCell ⟨g, j, none⟩ (.int .u32 (x : Nat))) g (l.set j x) := by
  have := heap_setCell_same w g j _ 62 (.int .u32 (x : Nat)) h
  unfold Row
  rw [this]
  simp [U, List.map_set]
theorem Row.drewN {w : World} {g : Nat} {l : List Nat} (h : Row w g l) (q : Nat) : Row (w.drewN q) g l := h
theorem Row.keep {w w' : World} {g : Nat} {l : List Nat} (h : Row w g l) (k : Keep w w') : Row w' g l := by
  unfold Row; rw [k.block g h.lt]; exact h
theorem Row.mut {w w' : World} {g g' : Nat} {l : List Nat} (h : Row w g l) (k : Mut g' w w') (hne : g ≠ g') : Row w' g l := by
  unfold Row; rw [k.block g hne]; exact h
theorem Row.rd {w : World} {g : Nat} {l : List Nat} (h : Row w g l) (o n : Nat) (hn : o + n ≤ l.length) : Rd w (some ⟨g, o, none⟩) ((l.drop o).take n) := by
  intro j hj
  refine ⟨g, o, rfl, ?_⟩
  have h1 : j < n := by simp at hj; omega
  rw [h.cell (o + j) (by omega)]
  simp [List.getD, h1]
theorem Keep.refl (w : World) : Keep w w := Below.refl _ _
theorem Keep.trans {a b c : World} (h : Keep a b) (k : Keep b c) : Keep a c := Below.trans h (Below.mono k h.size)
theorem Keep.drewN {a b : World} (h : Keep a b) (q : Nat) : Keep a (b.drewN q) := ⟨h.os, h.tape, h.output, h.size, h.block⟩
theorem Keep.alloc {a b : World} (h : Keep a b) (o : Obj) : Keep a (b.alloc o) := Below.alloc h h.size o
theorem Keep.mut {a b c : World} {g : Nat} (h : Keep a b) (k : Mut g b c) (hg : a.heap.size ≤ g) : Keep a c :=
  Below.trans h ⟨k.os, k.tape, k.output, by rw [k.size]; exact Nat.le_refl _, fun i hi => k.block i (by omega)⟩
theorem Keep.setCell {a b : World} (h : Keep a b) {p : Addr} (hp : a.heap.size ≤ p.block) (u : Value) : Keep a (b.setCell p u) := Below.setCell h hp u
theorem Keep.cell {a b : World} (h : Keep a b) {p : Addr} {v : Value} (hc : a.cell? p = some v) : b.cell? p = some v :=
  (Below.cell h (World.block_lt_of_cell? a p hc)).trans hc
theorem Keep.le {a b : World} (h : Keep a b) : a.heap.size ≤ b.heap.size := h.size
theorem Mut.refl (g : Nat) (w : World) : Mut g w w := ⟨rfl, rfl, rfl, rfl, fun _ _ => rfl⟩
theorem Mut.trans {g : Nat} {a b c : World} (h : Mut g a b) (k : Mut g b c) : Mut g a c :=
  ⟨k.os.trans h.os, k.tape.trans h.tape, k.output.trans h.output, k.size.trans h.size, fun i hi => (k.block i hi).trans (h.block i hi)⟩
theorem Mut.drewN {g : Nat} {a b : World} (h : Mut g a b) (q : Nat) : Mut g a (b.drewN q) := ⟨h.os, h.tape, h.output, h.size, h.block⟩
theorem Mut.setCell {g : Nat} {a b : World} (h : Mut g a b) (j : Nat) (u : Value) : Mut g a (b.setCell ⟨g, j, none⟩ u) :=
  h.trans ⟨rfl, rfl, rfl, by simp, fun k hk => Below.heap_setCell _ _ _ _ (by simpa using hk)⟩
theorem Mut.cell {g : Nat} {a b : World} (h : Mut g a b) {p : Addr} {v : Value} (hp : p.block ≠ g) (hc : a.cell? p = some v) : b.cell? p = some v :=
  (World.cell?_of_block (h.block p.block hp)).trans hc
theorem Mut.setRow (w : World) (g : Nat) (cs : Array Value) : Mut g w (w.setRow g cs) :=
  ⟨rfl, rfl, rfl, by simp, fun k hk => setRow_other w g k cs hk⟩
theorem Rd.keep {w w' : World} {a : Option Addr} {l : List Nat} (h : Rd w a l) (k : Keep w w') : Rd w' a l := by
  intro j hj
  obtain ⟨b, o, e, hc⟩ := h j hj
  exact ⟨b, o, e, k.cell hc⟩
theorem Rd.take {w : World} {a : Option Addr} {l : List Nat} (h : Rd w a l) (n : Nat) : Rd w a (l.take n) := by
  intro j hj
  have h1 : j < n ∧ j < l.length := by simp at hj; omega
  obtain ⟨b, o, e, hc⟩ := h j h1.2
  exact ⟨b, o, e, by rw [hc]; simp [List.getD, h1.1]⟩
theorem Rd.nil (w : World) (a : Option Addr) : Rd w a [] := by intro j hj; simp at hj
/-- None of its cells lies in block g. -/
def Off (g : Nat) (a : Option Addr) (l : List Nat) : Prop := ∀ b o s, a = some ⟨b, o, s⟩ → l ≠ [] → b ≠ g
theorem Rd.mut {w w' : World} {a : Option Addr} {l : List Nat} {g : Nat} (h : Rd w a l) (k : Mut g w w') (ho : Off g a l) : Rd w' a l := by
  intro j hj
  obtain ⟨b, o, e, hc⟩ := h j hj
  exact ⟨b, o, e, k.cell (ho b o _ e (by intro h; simp [h] at hj)) hc⟩
theorem Off.of_lt {w : World} {a : Option Addr} {l : List Nat} {g : Nat} (h : Rd w a l) (hg : w.heap.size ≤ g) : Off g a l := by
  intro b o s e hl
  have h0 : 0 < l.length := List.length_pos_iff.2 hl
  obtain ⟨b', o', e', hc⟩ := h 0 h0
  have := World.block_lt_of_cell? w _ hc
  rw [e] at e'
  simp at e'
  simp at this
  omega
theorem Res.keep {B : Nat} {w w' : World} {v : Value} {l : List Nat} (h : Res B w v l) (k : Keep w w') : Res B w' v l := by
  rcases h with h | ⟨g, r, e, hb, hr, h1, h2⟩
  · exact .inl h
  · exact .inr ⟨g, r, e, hb, hr.keep k, h1, h2⟩
theorem Res.mono {B B' : Nat} {w : World} {v : Value} {l : List Nat} (h : Res B w v l) (hB : B' ≤ B) : Res B' w v l := by
  rcases h with h | ⟨g, r, e, hb, hr, h1, h2⟩
  · exact .inl h
  · exact .inr ⟨g, r, e, by omega, hr, h1, h2⟩
/-- Its shape, and what it reads as. -/
theorem Res.shape {B : Nat} {w : World} {v : Value} {l : List Nat} (h : Res B w v l) : ∃ a c, v = .slice a l.length c ∧ l.length ≤ c ∧ Rd w a l := by
  rcases h with ⟨rfl, rfl⟩ | ⟨g, r, e, hb, hr, h1, h2⟩
  · exact ⟨none, 0, rfl, Nat.le_refl _, Rd.nil _ _⟩
  · refine ⟨some ⟨g, 0, none⟩, r.length, e, h1, ?_⟩
    have := hr.rd 0 l.length (by omega)
    rw [List.drop_zero, h2] at this
    exact this
/-- Cut shorter. -/
theorem Res.cut {B : Nat} {w : World} {a : Option Addr} {n c m : Nat} {l : List Nat} (h : Res B w (.slice a n c) l) (hm : m ≤ l.length) : Res B w (.slice a m c) (l.take m) := by
  rcases h with ⟨e, rfl⟩ | ⟨g, r, e, hb, hr, h1, h2⟩
  · simp at hm; simp at e; obtain ⟨rfl, rfl, rfl⟩ := e; subst hm; exact .inl ⟨rfl, rfl⟩
  · simp at e; obtain ⟨rfl, rfl, rfl⟩ := e
    refine .inr ⟨g, r, by simp [Nat.min_eq_left hm], hb, hr, by simp; omega, ?_⟩
    rw [← h2, List.take_take]; simp
theorem i62 : (Tryz.prog.info? 62).map (fun i => (i.zero, i.size, i.bytes)) = some (some (.int .u32 0), 1, 4) := by kernel_rfl
theorem s62 : (Tryz.prog.info? 62).map (·.size) = some 1 := by kernel_rfl
theorem made32 (n : Nat) : madeCells (Value.int .u32 0).cells n = (U (List.replicate n 0)).toArray := by
  have := toList_madeCells_one (.int .u32 0) n
  rw [← Array.toList_inj]
  simp only [U, List.map_replicate]
  exact this
/-- make([]uint32, n). -/
theorem wpList_make32 (w : World) {ops : Array Oper} {rest : List Oper} {o : Oper} {a : Act} {Q : Exit → Act → World → Prop}
    (hg : o.guard = none) (l c : Operand) (hop : o.op = Op.makeSlice 34 l c) (kl kc : IntKind) (L C : Int) (n : Nat) (hl : a.eval l = .int kl L) (hc : a.eval c = .int kc C) (hL : L = (n : Int)) (hC : C = (n : Int)) (hn : n ≤ 70368744177664)
    (hK : ∀ w', Row w' w.heap.size (List.replicate n 0) → Keep w w' → w'.heap.size = w.heap.size + 1 → wpList Tryz.prog ops Q rest (a.put o.dst (.slice (some ⟨w.heap.size, 0, none⟩) n n)) w') :
    wpList Tryz.prog ops Q (o :: rest) a w := by
  refine wpList_plain hg fun K hK' => ?_
  obtain ⟨i, hi, hz0, hz1, hz2⟩ := info_parts i62
  have hr := run_make (P := Tryz.prog) w 34 62 i _ Tryz.underlying34 hi hz0 kl kc n n (by omega) (by omega) (by rw [hz2]; omega) (by omega)
  subst hL
  subst hC
  rw [hz1] at hr
  unfold Oper.wp
  simp only [Int.toNat_natCast, Nat.mul_one, made32] at hr
  simp [execOp, hop, hl, hc, hr, Result.andThen]
  exact hK' _ _ (hK _ (heap_alloc_new w _) ((Keep.refl w).alloc _) (by simp))
/-- copy(dst, src) into a row of the call's own. -/
theorem wpList_copy32 {w : World} {ops : Array Oper} {rest : List Oper} {o : Oper} {a : Act} {Q : Exit → Act → World → Prop} (hgd : o.guard = none) (d s : Operand)
    (ho : o.op = .call { callee := .builtin .copy, args := #[d, s], argTypes := #[34, 34] })
    (dp sp : Option Addr) (dLen dCap sCap : Nat) (l : List Nat) (hd : a.eval d = .slice dp dLen dCap) (hs : a.eval s = .slice sp l.length sCap)
    (g off : Nat) (r : List Nat) (hg : Row w g r) (hl : l.length ≤ dLen) (hdp : l ≠ [] → dp = some ⟨g, off, none⟩) (hr : Rd w sp l) (hfit : off + l.length ≤ r.length)
    (h : ∀ w', Row w' g (r.take off ++ (l ++ r.drop (off + l.length))) → Mut g w w' → wpList Tryz.prog ops Q rest (a.put o.dst (goInt l.length)) w') :
    wpList Tryz.prog ops Q (o :: rest) a w := by
  by_cases h0 : l = []
  · subst h0
    refine wpList_copy_nothing hgd d s 34 34 ho 62 Tryz.underlying34 s62 dp sp dLen dCap 0 sCap hd hs (Nat.zero_min _) ?_
    exact h w (by simpa using hg) (Mut.refl _ _)
  · obtain rfl := hdp h0
    obtain ⟨b, o', rfl, -⟩ := hr 0 (List.length_pos_iff.2 h0)
    refine wpList_copy_own hgd d s 34 34 ho 62 Tryz.underlying34 s62 g off dLen dCap ⟨b, o', none⟩ l.length sCap hd hs _ 62 hg (U l) (by rw [U_length]; exact (Nat.min_eq_left hl).symm) ?_ (by simpa [U_length] using hfit) (U_one l) ?_
    · intro j v hv
      have hj : j < l.length := by have := (List.getElem?_eq_some_iff.1 hv).1; simpa [U_length] using this
      rw [U_get l j hj] at hv
      obtain ⟨b2, o2, e, hc⟩ := hr j hj
      simp at e
      obtain ⟨rfl, rfl⟩ := e
      rw [Addr.add_lit, hc, hv]
    · rw [U_length]
      refine h _ ?_ (Mut.setRow _ _ _)
      unfold Row
      rw [setRow_heap w g _ _ 62 _ hg]
      simp [U, List.map_take, List.map_drop]
end Go.Proofs.YtinjikoocegooaaGreatDoor.Li
set_option linter.unusedVariables false
set_option linter.unusedSimpArgs false
namespace Go.Proofs.YtinjikoocegooaaGreatDoor.Li
open Go.RowKit Lb
set_option maxHeartbeats 400000 in
theorem trim_any (a : Option Addr) (c : Nat) (l : List Nat) (w : World) (hnc : l.length ≤ c) (hbig : l.length ≤ 9223372036854775807) (hr : Rd w a l) :
    Calls Tryz.prog 29 #[.slice a l.length c] w fun e w' => e = .returned (.slice a (nl l) c) ∧ w' = w := by
  go_enter Tryz.func29, Tryz.ntmps29
  go_wp2
  go_loop [3] (fun i => ∃ k : Nat, k ≤ l.length ∧ i = .int .i64 k ∧ ∀ j, k ≤ j → l.getD j 0 = 0) (fun i => (intOf i).toNat)
  case atStart => exact ⟨l.length, Nat.le_refl _, rfl, fun j hj => by simp [List.getD, List.getElem?_eq_none hj]⟩
  case round =>
    obtain ⟨k, hk, rfl, hz⟩ := hrel
    by_cases h0 : 0 < k
    · obtain ⟨b, o, rfl, hc⟩ := hr (k - 1) (by omega)
      obtain ⟨x, hx⟩ : ∃ x, l.getD (k - 1) 0 = x := ⟨_, rfl⟩
      rw [hx] at hc
      by_cases hx0 : x = 0
      · subst hx0
        have Hx : Hid (l.getD (k - 1) 0 = 0) := hx; clear hx
        go_wp2
        go_round
        case rel => exact ⟨k - 1, by omega, by go_num, fun j hj => by
          by_cases e : j = k - 1
          · subst e; exact Hx.out
          · exact hz j (by omega)⟩
        case measure => simp [intOf]; omega
      · have Hx : Hid (l.getD (k - 1) 0 = x) := hx; clear hx
        go_wp2
        go_ret
        refine ⟨?_, rfl⟩
        rw [nl_eq l k hz (fun _ => by rw [Hx.out]; exact hx0)]
        rfl
    · go_wp2
      go_ret
      refine ⟨?_, rfl⟩
      rw [nl_eq l k hz (by omega)]
      rfl
end Go.Proofs.YtinjikoocegooaaGreatDoor.Li
set_option linter.unusedVariables false
set_option linter.unusedSimpArgs false
namespace Go.Proofs.YtinjikoocegooaaGreatDoor.Li
open Go.RowKit Lb
/-- Only the count of draws has moved on. -/
def Dr (w w' : World) : Prop := ∃ q, w' = w.drewN q
theorem Dr.refl (w : World) : Dr w w := ⟨0, rfl⟩
theorem Dr.drewN {w w' : World} (h : Dr w w') (q : Nat) : Dr w (w'.drewN q) := by obtain ⟨n, rfl⟩ := h; exact ⟨n + q, World.drewN_drewN _ _ _⟩
theorem Dr.cell {w w' : World} (h : Dr w w') (a : Addr) : w'.cell? a = w.cell? a := by obtain ⟨n, rfl⟩ := h; rfl
theorem Dr.keep {w w' : World} (h : Dr w w') : Keep w w' := by obtain ⟨n, rfl⟩ := h; exact (Keep.refl w).drewN n
theorem Dr.trans {a b c : World} (h : Dr a b) (k : Dr b c) : Dr a c := by obtain ⟨n, rfl⟩ := k; exact h.drewN n
def cmpTop (a b : List Nat) : Nat → Int
  | 0 => 0
  | k + 1 => if a.getD k 0 < b.getD k 0 then -1 else if b.getD k 0 < a.getD k 0 then 1 else cmpTop a b k
def cmpL (a b : List Nat) : Int := if a.length < b.length then -1 else if b.length < a.length then 1 else cmpTop a b a.length
def sgn (t : Bool) : Int := if t then -1 else 1
theorem sign_any (t : Bool) (w : World) : Calls Tryz.prog 24 #[.bool t] w fun e w' => e = .returned (.int .i64 (sgn t)) ∧ w' = w := by
  cases t
  all_goals
    go_enter Tryz.func24, Tryz.ntmps24
    go_wp2
    go_ret
    exact ⟨rfl, rfl⟩
set_option maxHeartbeats 400000 in
set_option maxRecDepth 100000 in
theorem compare_any (a b : Option Addr) (ca cb : Nat) (la lb : List Nat) (w : World) (hla : la.length ≤ 9223372036854775807) (_hlb : lb.length ≤ 9223372036854775807) (hra : Rd w a la) (hrb : Rd w b lb) :
    Calls Tryz.prog 25 #[.slice a la.length ca, .slice b lb.length cb] w fun e w' => e = .returned (.int .i64 (cmpL la lb)) ∧ Dr w w' := by
  by_cases hlt : la.length < lb.length
  · go_enter Tryz.func25, Tryz.ntmps25
    go_wp2
    go_ret
    exact ⟨ret_int (by unfold cmpL; rw [if_pos hlt]), Dr.refl _⟩
  by_cases hgt : lb.length < la.length
  · go_enter Tryz.func25, Tryz.ntmps25
    go_wp2
    go_ret
    exact ⟨ret_int (by unfold cmpL; rw [if_neg hlt, if_pos hgt]), Dr.refl _⟩
  have heq : ((la.length : Int) != (lb.length : Int)) = false := by simp; omega
  have hc : Hid (cmpL la lb = cmpTop la lb la.length) := by show _ = _; unfold cmpL; rw [if_neg hlt, if_neg hgt]
  go_enter Tryz.func25, Tryz.ntmps25
  go_wp2
  go_loopw [20] (fun i wr => ∃ k : Nat, k ≤ la.length ∧ i = .int .i64 k ∧ Hid (cmpTop la lb (la.length - k) = cmpTop la lb la.length) ∧ Dr w wr) (fun i _ => la.length - (intOf i).toNat)
  case atStart => exact ⟨0, Nat.zero_le _, rfl, rfl, Dr.refl _⟩
  case round =>
    obtain ⟨k, hk, rfl, hrest, hd⟩ := hrel
    by_cases hkl : k < la.length
    · obtain ⟨b1, o1, rfl, hc1⟩ := hra (la.length - 1 - k) (by omega)
      obtain ⟨b2, o2, rfl, hc2⟩ := hrb (la.length - 1 - k) (by omega)
      obtain ⟨x, hx⟩ : ∃ x, la.getD (la.length - 1 - k) 0 = x := ⟨_, rfl⟩
      obtain ⟨y, hy⟩ : ∃ y, lb.getD (la.length - 1 - k) 0 = y := ⟨_, rfl⟩
      rw [hx, ← hd.cell] at hc1
      rw [hy, ← hd.cell] at hc2
      have Hx : Hid (la.getD (la.length - 1 - k) 0 = x) := hx; clear hx
      have Hy : Hid (lb.getD (la.length - 1 - k) 0 = y) := hy; clear hy
      have hstep : Hid (cmpTop la lb (la.length - k) = if x < y then -1 else if y < x then 1 else cmpTop la lb (la.length - (k + 1))) := by
        show _ = _
        rw [show la.length - k = (la.length - 1 - k) + 1 from by omega, cmpTop, Hx.out, Hy.out, show la.length - (k + 1) = la.length - 1 - k from by omega]
      rcases Nat.lt_trichotomy x y with hxy | hxy | hxy
      · have hne : ((x : Int) != (y : Int)) = true := by simp; omega
        go_wp2
        go_quiet (fail)
        have hd1 : Dr w (wr.drewN nq) := hd.drewN nq
        have hc1' : (wr.drewN nq).cell? _ = _ := hc1
        have hc2' : (wr.drewN nq).cell? _ = _ := hc2
        clear hc1 hc2 hd
        generalize wr.drewN nq = w1 at hd1 hc1' hc2' ⊢
        go_wp2_with fail
        go_quiet ((go_at_call 24; exact Calls.quiet_of_same (sign_any _ _)))
        go_wp2
        go_ret
        exact ⟨ret_int (by rw [hc.out, ← hrest.out, hstep.out, if_pos hxy]; rfl), hd1.drewN _⟩
      · subst hxy
        go_wp2
        go_quiet (fail)
        go_wp2
        go_roundw
        case rel => exact ⟨k + 1, by omega, by go_num, by rw [← hrest.out, hstep.out, if_neg (by omega), if_neg (by omega)]; rfl, hd.drewN _⟩
        case measure => simp [intOf]; omega
      · have hne : ((x : Int) != (y : Int)) = true := by simp; omega
        have hd' : decide ((x : Int) < y) = false := by simp; omega
        go_wp2
        go_quiet (fail)
        have hd1 : Dr w (wr.drewN nq) := hd.drewN nq
        have hc1' : (wr.drewN nq).cell? _ = _ := hc1
        have hc2' : (wr.drewN nq).cell? _ = _ := hc2
        clear hc1 hc2 hd
        generalize wr.drewN nq = w1 at hd1 hc1' hc2' ⊢
        go_wp2_with fail
        go_quiet ((go_at_call 24; exact Calls.quiet_of_same (sign_any _ _)))
        go_wp2
        go_ret
        exact ⟨ret_int (by rw [hc.out, ← hrest.out, hstep.out, if_neg (by omega), if_pos hxy]; simp [sgn]; omega), hd1.drewN _⟩
    · go_wp2
      go_ret
      have hkk : k = la.length := by omega
      exact ⟨ret_int (by rw [hc.out, ← hrest.out, hkk, Nat.sub_self]; rfl), hd⟩
end Go.Proofs.YtinjikoocegooaaGreatDoor.Li
set_option linter.unusedVariables false
set_option linter.unusedSimpArgs false
namespace Go.Proofs.YtinjikoocegooaaGreatDoor.Li
open Go.RowKit Lb
set_option maxHeartbeats 400000 in
theorem From_any (n : Nat) (w : World) (hn : n < 18446744073709551616) :
    Calls Tryz.prog 18 #[.int .u64 (n : Nat)] w fun e w' => ∃ v l, e = .returned v ∧ Res w.heap.size w' v l ∧ Lim l ∧ Nrm l ∧ val l = n ∧ Keep w w' := by
  go_enter Tryz.func18, Tryz.ntmps18
  go_wp2_with fail
  have hrow : Row (w.alloc (Obj.cells #[Value.int IntKind.u32 (↑n % 4294967296), Value.int IntKind.u32 (↑n / 4294967296)] 62)) w.heap.size [n % 4294967296, n / 4294967296] := by
    unfold Row; rw [heap_alloc_new]; simp [U]
  have hk : Keep w (w.alloc (Obj.cells #[Value.int IntKind.u32 (↑n % 4294967296), Value.int IntKind.u32 (↑n / 4294967296)] 62)) := (Keep.refl w).alloc _
  generalize w.alloc _ = w1 at hrow hk ⊢
  refine (trim_any (some ⟨w.heap.size, 0, none⟩) 2 [n % 4294967296, n / 4294967296] w1 (by simp) (by simp) (hrow.rd 0 2 (by simp))).mono ?_
  rintro e w' ⟨rfl, rfl⟩
  go_wp2
  go_ret
  refine ⟨_, [n % 4294967296, n / 4294967296].take (nl [n % 4294967296, n / 4294967296]), rfl, ?_, Lim_take (by intro x hx; simp at hx; omega) _, Nrm_take _, by rw [val_take_nl]; simp [val]; omega, hk⟩
  have hres : Res w.heap.size w' (.slice (some ⟨w.heap.size, 0, none⟩) 2 2) [n % 4294967296, n / 4294967296] := .inr ⟨_, _, rfl, Nat.le_refl _, hrow, Nat.le_refl _, rfl⟩
  exact hres.cut (nl_le _)
end Go.Proofs.YtinjikoocegooaaGreatDoor.Li
set_option linter.unusedVariables false
set_option linter.unusedSimpArgs false
namespace Go.Proofs.YtinjikoocegooaaGreatDoor.Li
open Go.RowKit Lb
/-- A slice that owns its limbs (made by append). -/
def Own (B : Nat) (w : World) (v : Value) (l : List Nat) : Prop := w.ownsRow B 62 1 v l.length (U l)
theorem Own.keep {B : Nat} {w w' : World} {v : Value} {l : List Nat} (h : Own B w v l) (k : Keep w w') : Own B w' v l := by
  refine ⟨h.1, ?_⟩
  rcases h.2 with h2 | ⟨g, cap, cur, hv, hg, hh, r⟩
  · exact .inl h2
  · exact .inr ⟨g, cap, cur, hv, hg, by rw [k.block g (Array.getElem?_eq_some_iff.1 hh).1]; exact hh, r⟩
theorem Own.mono {B B' : Nat} {w : World} {v : Value} {l : List Nat} (h : Own B w v l) (hB : B' ≤ B) : Own B' w v l := by
  refine ⟨h.1, ?_⟩
  rcases h.2 with h2 | ⟨g, cap, cur, hv, hg, r⟩
  · exact .inl h2
  · exact .inr ⟨g, cap, cur, hv, by omega, r⟩
theorem Own.shape {B : Nat} {w : World} {v : Value} {l : List Nat} (h : Own B w v l) : ∃ a c, v = .slice a l.length c ∧ l.length ≤ c ∧ Rd w a l := by
  rcases h.2 with ⟨h1, h2⟩ | ⟨g, cap, cur, hv, hg, hh, h1, h2, h3, h4⟩
  · exact ⟨none, 0, by rw [h1, h2], by omega, fun j hj => by omega⟩
  · refine ⟨some ⟨g, 0, none⟩, cap, hv, h1, ?_⟩
    intro j hj
    refine ⟨g, 0, rfl, ?_⟩
    rw [Nat.zero_add, cell_of_row w g j cur 62 (0, 0) hh, ← U_get l j hj, ← h4]
    simp [hj]
/-- out = append(out, x). -/
theorem wpList_app32 {w0 wr : World} {ops : Array Oper} {rest : List Oper} {o : Oper} {a : Act} {Q : Exit → Act → World → Prop} (hgd : o.guard = none) (s x : Operand)
    (ho : o.op = .call { callee := .builtin .append, args := #[s, x], argTypes := #[34, 34] }) (l : List Nat) (v : Value) (hs : a.eval s = v) (Y : Int) (y : Nat) (hY : Y = (y : Int))
    (hx : a.eval x = .slice (some ⟨wr.heap.size, 0, none⟩) 1 1) (hown : Own w0.heap.size wr v l) (hk : Keep w0 wr) (hlen : l.length < 35184372088832)
    (hK : ∀ v' w1, Own w0.heap.size w1 v' (l ++ [y]) → Keep w0 w1 → wpList Tryz.prog ops Q rest (a.put o.dst v') w1) :
    wpList Tryz.prog ops Q (o :: rest) a (wr.alloc (.cells #[.int .u32 Y] 62)) := by
  obtain ⟨i0, hi, hz0, hz1, hz2⟩ := info_parts i62
  subst hY
  refine wpList_append_own _ hgd s x 34 ho w0.heap.size 62 i0 (.int .u32 0) 1 4 Tryz.underlying34 hi hz0 hz1 hz2 rfl (by decide) v _ _ hs (hown.alloc _) ⟨wr.heap.size, 0, none⟩ 1 1 [.int .u32 (y : Int)] hx rfl ?_ ?_ ?_ ?_ ?_ ?_
  · intro j u hj
    match j, hj with
    | 0, hj => simp at hj; subst hj; simp [Addr.add]
  · intro u hu; simp at hu; subst hu; rfl
  · simp only [maxLen]; omega
  · omega
  · have := hk.le; simp; omega
  · intro v' w1 h1 h2 _
    refine hK v' w1 ?_ ?_
    · unfold Own; simpa [U] using h1
    · refine Below.grown (hk.alloc _) h2 (by have := hk.le; simp; omega) ?_
      intro k hk'
      have := hown.lt k hk'
      exact this.1
theorem take_snoc (l : List Nat) (j : Nat) (h : j < l.length) : l.take (j + 1) = l.take j ++ [l.getD j 0] := by
  rw [List.take_succ_eq_append_getElem h]; simp [List.getD, h]
end Go.Proofs.YtinjikoocegooaaGreatDoor.Li
set_option linter.unusedVariables false
set_option linter.unusedSimpArgs false
namespace Go.Proofs.YtinjikoocegooaaGreatDoor.Li
open Go.RowKit Lb
set_option maxRecDepth 100000 in
set_option maxHeartbeats 400000 in
theorem Cmp_any (a b : Option Addr) (ca cb : Nat) (la lb : List Nat) (w : World) (hca : la.length ≤ ca) (hcb : lb.length ≤ cb) (hla : la.length ≤ 70368744177664) (hlb : lb.length ≤ 70368744177664) (hra : Rd w a la) (hrb : Rd w b lb) :
    Calls Tryz.prog 11 #[.slice a la.length ca, .slice b lb.length cb] w fun e w' => e = .returned (.int .i64 (cmpL (la.take (nl la)) (lb.take (nl lb)))) ∧ Dr w w' := by
  have h1 := nl_le la
  have h2 := nl_le lb
  have e1 : (la.take (nl la)).length = nl la := by simp; omega
  have e2 : (lb.take (nl lb)).length = nl lb := by simp; omega
  have hc := compare_any a b ca cb (la.take (nl la)) (lb.take (nl lb)) w (by omega) (by omega) (hra.take _) (hrb.take _)
  rw [e1, e2] at hc
  have t1 := trim_any a ca la w hca (by omega) hra
  have t2 := trim_any b cb lb w hcb (by omega) hrb
  go_enter Tryz.func11, Tryz.ntmps11
  go_wp2_with fail
  refine t1.mono ?_
  rintro e w' ⟨rfl, rfl⟩
  go_wp2_with fail
  refine t2.mono ?_
  rintro e w' ⟨rfl, rfl⟩
  go_wp2_with fail
  refine hc.mono ?_
  rintro e w' ⟨rfl, hd⟩
  go_wp2
  go_ret
  exact ⟨rfl, hd⟩
theorem and64 (n : Nat) (hn : n < 18446744073709551616) : bits .and .u64 (n : Int) 4294967295 = ((n % 4294967296 : Nat) : Int) := by
  have := u64_and_nat n 4294967295 hn (by omega)
  rw [show n &&& 4294967295 = n % 4294967296 from Nat.and_two_pow_sub_one_eq_mod n 32] at this
  exact this
end Go.Proofs.YtinjikoocegooaaGreatDoor.Li
set_option linter.unusedVariables false
set_option linter.unusedSimpArgs false
namespace Go.Proofs.YtinjikoocegooaaGreatDoor.Li
open Go.RowKit Lb
set_option maxRecDepth 100000 in
set_option maxHeartbeats 400000 in
theorem addAt_any (g : Nat) (b : Option Addr) (cb at' : Nat) (r lb : List Nat) (w : World) (hrl : r.length ≤ 70368744177664) (hrow : Row w g r) (hrb : Rd w b lb) (hoff : Off g b lb) (hm : Lim r) (hmb : Lim lb)
    (hfit : at' + lb.length ≤ r.length) (hroom : val r + 4294967296 ^ at' * val lb < 4294967296 ^ r.length) :
    Calls Tryz.prog 51 #[.slice (some ⟨g, 0, none⟩) r.length r.length, .slice b lb.length cb, .int .i64 (at' : Nat)] w fun e w' => e = .returned (.tuple #[]) ∧ ∃ r', Row w' g r' ∧ r'.length = r.length ∧ Lim r' ∧ val r' = val r + 4294967296 ^ at' * val lb ∧ Mut g w w' := by
  go_enter Tryz.func51, Tryz.ntmps51
  go_wp2
  go_loopw [6, 11] (fun c i wr => ∃ (k t : Nat) (rk : List Nat), k ≤ lb.length ∧ t ≤ 1 ∧ i = .int .i64 k ∧ c = .int .u64 t ∧ Row wr g rk ∧ rk.length = r.length ∧ Lim rk ∧ Hid (val rk + t * 4294967296 ^ (at' + k) = val r + 4294967296 ^ at' * val (lb.take k)) ∧ Mut g w wr) (fun _ i _ => lb.length - (intOf i).toNat)
  case atStart => exact ⟨0, 0, r, by omega, by omega, rfl, rfl, hrow, rfl, hm, by show _ = _; simp [val], Mut.refl _ _⟩
  case round =>
    obtain ⟨k, t, rk, hk, ht, rfl, rfl, hrk, hlen, hmk, hv, hmut⟩ := hrel
    by_cases hkl : k < lb.length
    · obtain ⟨b1, o1, rfl, hc1⟩ := (hrb.mut hmut hoff) k hkl
      have hc2 := hrk.cell (at' + k) (by omega)
      have hfz := hrk.frozen (at' + k)
      obtain ⟨x, hx⟩ : ∃ x, rk.getD (at' + k) 0 = x := ⟨_, rfl⟩
      obtain ⟨y, hy⟩ : ∃ y, lb.getD k 0 = y := ⟨_, rfl⟩
      have hxl : x < 4294967296 := hx ▸ Lim_getD hmk _
      have hyl : y < 4294967296 := hy ▸ Lim_getD hmb _
      rw [hx] at hc2
      rw [hy] at hc1
      have Hx : Hid (rk.getD (at' + k) 0 = x) := hx; clear hx
      have Hy : Hid (lb.getD k 0 = y) := hy; clear hy
      have hl2 : at' + k < r.length := by omega
      have Hl : Hid (rk.length = r.length) := hlen; clear hlen
      go_wp2
      go_quiet (fail)
      have hmut1 : Mut g w (wr.drewN nq) := hmut.drewN nq
      have hrk1 : Row (wr.drewN nq) g rk := hrk
      have hc2' : (wr.drewN nq).cell? _ = _ := hc2
      have hfz' : (wr.drewN nq).frozen? _ = _ := hfz
      clear hc1 hc2 hfz hmut hrk
      generalize wr.drewN nq = w1 at hmut1 hrk1 hc2' hfz' ⊢
      go_wp2
      go_roundw
      case rel =>
        refine ⟨k + 1, (t + (x + y)) / 4294967296, rk.set (at' + k) ((t + (x + y)) % 4294967296), by omega, by omega, by go_num, by simp, ?_, by simp [Hl.out], Lim_set hmk _ _ (by omega), ?_, hmut1.setCell _ _⟩
        · have := hrk1.set (at' + k) ((t + (x + y)) % 4294967296); simpa using this
        · show _ = _
          have h1 := addStep rk (at' + k) t x y _ (by rw [Hl.out]; omega) Hx.out hv.out
          rw [show at' + (k + 1) = at' + k + 1 from rfl, h1, val_take_succ, Hy.out, Nat.pow_add, Nat.mul_add, Nat.add_assoc, Nat.mul_left_comm y]
      case measure => simp [intOf]; omega
    · have hke : k = lb.length := by omega
      subst hke
      rw [List.take_of_length_le (Nat.le_refl _)] at hv
      go_wp2
      go_loopw [6, 8] (fun c i wr => ∃ (j t : Nat) (rk : List Nat), j ≤ r.length ∧ t ≤ 1 ∧ i = .int .i64 j ∧ c = .int .u64 t ∧ Row wr g rk ∧ rk.length = r.length ∧ Lim rk ∧ Hid (val rk + t * 4294967296 ^ j = val r + 4294967296 ^ at' * val lb) ∧ Mut g w wr) (fun _ i _ => r.length - (intOf i).toNat)
      case atStart => exact ⟨at' + lb.length, t, rk, by omega, ht, by go_num, rfl, hrk, hlen, hmk, hv, hmut⟩
      case round =>
        clear hv hmut hmk hlen hrk hkl hk ht
        obtain ⟨j, t, rk, hj, ht, rfl, rfl, hrk, hlen, hmk, hv, hmut⟩ := hrel
        by_cases ht0 : 0 < t
        · have hjl : j < r.length := by
            rcases Nat.lt_or_ge j r.length with h | h
            · exact h
            · exact absurd (val_ge_pow hmk j t _ (by omega) ht0 hv.out (by rw [hlen]; exact hroom)) id
          have hc2 := hrk.cell j (by omega)
          have hfz := hrk.frozen j
          obtain ⟨x, hx⟩ : ∃ x, rk.getD j 0 = x := ⟨_, rfl⟩
          have hxl : x < 4294967296 := hx ▸ Lim_getD hmk _
          rw [hx] at hc2
          have Hx : Hid (rk.getD j 0 = x) := hx; clear hx
          have Hl : Hid (rk.length = r.length) := hlen; clear hlen
          go_wp2
          go_roundw
          case rel =>
            refine ⟨j + 1, (t + (x + 0)) / 4294967296, rk.set j ((t + (x + 0)) % 4294967296), by omega, by omega, by go_num, by simp, ?_, by simp [Hl.out], Lim_set hmk _ _ (by omega), ?_, hmut.setCell _ _⟩
            · have := hrk.set j ((t + (x + 0)) % 4294967296); simpa using this
            · show _ = _
              have h1 := addStep rk j t x 0 _ (by rw [Hl.out]; omega) Hx.out hv.out
              rw [h1]; omega
          case measure => simp [intOf]; omega
        · go_wp2
          go_end0
          have ht1 : t = 0 := by omega
          subst ht1
          refine ⟨rfl, rk, hrk, hlen, hmk, ?_, hmut⟩
          have := hv.out
          omega
end Go.Proofs.YtinjikoocegooaaGreatDoor.Li
set_option linter.unusedVariables false
set_option linter.unusedSimpArgs false
namespace Go.Proofs.YtinjikoocegooaaGreatDoor.Li
open Go.RowKit Lb
/-- A natural without needless limbs, in memory of the call's own. -/
def NatR (B : Nat) (w : World) (v : Value) (n : Nat) : Prop := ∃ l, Res B w v l ∧ Lim l ∧ Nrm l ∧ val l = n
theorem Lim_snoc {l : List Nat} (h : Lim l) (x : Nat) (hx : x < 4294967296) : Lim (l ++ [x]) := by
  intro y hy
  simp at hy
  rcases hy with hy | hy
  · exact h y hy
  · omega
theorem sum_room (x y : List Nat) (hx : Lim x) (hy : Lim y) (h : y.length ≤ x.length) : val (x ++ [0]) + 4294967296 ^ 0 * val y < 4294967296 ^ (x ++ [0]).length := by
  have h1 := val_lt hx
  have h2 := val_lt hy
  have h3 : 4294967296 ^ y.length ≤ 4294967296 ^ x.length := Nat.pow_le_pow_right (by omega) h
  rw [val_append, List.length_append, Nat.pow_add]
  simp [val]
  omega
set_option maxRecDepth 100000 in
set_option maxHeartbeats 400000 in
theorem sum_any (a b : Option Addr) (ca cb : Nat) (la lb : List Nat) (w : World) (hla : la.length ≤ 70368744177663) (hlb : lb.length ≤ 70368744177663) (hra : Rd w a la) (hrb : Rd w b lb) (hma : Lim la) (hmb : Lim lb) :
    Calls Tryz.prog 34 #[.slice a la.length ca, .slice b lb.length cb] w fun e w' => ∃ v, e = .returned v ∧ NatR w.heap.size w' v (val la + val lb) ∧ Keep w w' := by
  by_cases hlt : la.length < lb.length
  · have hge : decide (la.length < lb.length) = true := by simp; omega
    have hlen : (lb ++ [0]).length = lb.length + 1 := by simp
    have hroom : val (lb ++ [0]) + 4294967296 ^ 0 * val la < 4294967296 ^ (lb ++ [0]).length := sum_room lb la hmb hma (by omega)
    have hmz : Lim (lb ++ [0]) := Lim_snoc hmb 0 (by omega)
    have hsz : lb.length + 1 ≤ 70368744177664 := by omega
    have hdl : lb.length ≤ lb.length + 1 := by omega
    go_enter Tryz.func34, Tryz.ntmps34
    go_wp2_with (first | (at_make; refine wpList_make32 _ rfl _ _ rfl _ _ _ _ (lb.length + 1) rfl rfl ?_ ?_ hsz ?_; rotate_left; rotate_left; intro w1 hrow hk hsz1) | (with_reducible show wpList _ _ _ (Oper.mk _ (Op.call { callee := Callee.builtin Builtin.copy, args := _, argTypes := _ }) _ _ _ _ :: _) _ _; refine wpList_copy32 rfl _ _ rfl _ _ _ _ _ lb rfl rfl w.heap.size 0 _ hrow hdl (fun _ => rfl) (hrb.keep hk) ?_ ?_; rotate_left; intro w2 hrow2 hm2))
    have hrow3 : Row w2 w.heap.size (lb ++ [0]) := by
      rw [show List.replicate (lb.length + 1) 0 = List.replicate lb.length 0 ++ [0] from by rw [List.replicate_succ']] at hrow2
      simpa using hrow2
    have hk2 : Keep w w2 := hk.mut hm2 (Nat.le_refl _)
    have hA := addAt_any w.heap.size _ ca 0 (lb ++ [0]) la w2 (by rw [hlen]; exact hsz) hrow3 (hra.keep hk2) (Off.of_lt hra (Nat.le_refl _)) hmz hma (by rw [hlen]; omega) hroom
    rw [hlen] at hA
    refine hA.mono ?_
    rintro e w3 ⟨rfl, r', hr', hl', hm', hv', hmu'⟩
    go_wp2_with fail
    have hT := trim_any (some ⟨w.heap.size, 0, none⟩) r'.length r' w3 (Nat.le_refl _) (by rw [hl']; omega) (by have := hr'.rd 0 r'.length (by omega); simpa using this)
    rw [hl'] at hT
    refine hT.mono ?_
    rintro e w4 ⟨rfl, rfl⟩
    go_wp2
    go_ret
    refine ⟨_, rfl, ⟨r'.take (nl r'), ?_, Lim_take hm' _, Nrm_take _, ?_⟩, hk2.mut hmu' (Nat.le_refl _)⟩
    · have : Res w.heap.size w4 (.slice (some ⟨w.heap.size, 0, none⟩) r'.length r'.length) r' := .inr ⟨_, r', rfl, Nat.le_refl _, hr', Nat.le_refl _, List.take_of_length_le (Nat.le_refl _)⟩
      have := this.cut (nl_le r')
      rw [hl'] at this
      exact this
    · rw [val_take_nl, hv', val_append]; simp [val]; omega
    all_goals simp
  · have hge : decide (la.length < lb.length) = false := by simp; omega
    have hlen : (la ++ [0]).length = la.length + 1 := by simp
    have hroom : val (la ++ [0]) + 4294967296 ^ 0 * val lb < 4294967296 ^ (la ++ [0]).length := sum_room la lb hma hmb (by omega)
    have hmz : Lim (la ++ [0]) := Lim_snoc hma 0 (by omega)
    have hsz : la.length + 1 ≤ 70368744177664 := by omega
    have hdl : la.length ≤ la.length + 1 := by omega
    go_enter Tryz.func34, Tryz.ntmps34
    go_wp2_with (first | (at_make; refine wpList_make32 _ rfl _ _ rfl _ _ _ _ (la.length + 1) rfl rfl ?_ ?_ hsz ?_; rotate_left; rotate_left; intro w1 hrow hk hsz1) | (with_reducible show wpList _ _ _ (Oper.mk _ (Op.call { callee := Callee.builtin Builtin.copy, args := _, argTypes := _ }) _ _ _ _ :: _) _ _; refine wpList_copy32 rfl _ _ rfl _ _ _ _ _ la rfl rfl w.heap.size 0 _ hrow hdl (fun _ => rfl) (hra.keep hk) ?_ ?_; rotate_left; intro w2 hrow2 hm2))
    have hrow3 : Row w2 w.heap.size (la ++ [0]) := by
      rw [show List.replicate (la.length + 1) 0 = List.replicate la.length 0 ++ [0] from by rw [List.replicate_succ']] at hrow2
      simpa using hrow2
    have hk2 : Keep w w2 := hk.mut hm2 (Nat.le_refl _)
    have hA := addAt_any w.heap.size _ cb 0 (la ++ [0]) lb w2 (by rw [hlen]; exact hsz) hrow3 (hrb.keep hk2) (Off.of_lt hrb (Nat.le_refl _)) hmz hmb (by rw [hlen]; omega) hroom
    rw [hlen] at hA
    refine hA.mono ?_
    rintro e w3 ⟨rfl, r', hr', hl', hm', hv', hmu'⟩
    go_wp2_with fail
    have hT := trim_any (some ⟨w.heap.size, 0, none⟩) r'.length r' w3 (Nat.le_refl _) (by rw [hl']; omega) (by have := hr'.rd 0 r'.length (by omega); simpa using this)
    rw [hl'] at hT
    refine hT.mono ?_
    rintro e w4 ⟨rfl, rfl⟩
    go_wp2
    go_ret
    refine ⟨_, rfl, ⟨r'.take (nl r'), ?_, Lim_take hm' _, Nrm_take _, ?_⟩, hk2.mut hmu' (Nat.le_refl _)⟩
    · have : Res w.heap.size w4 (.slice (some ⟨w.heap.size, 0, none⟩) r'.length r'.length) r' := .inr ⟨_, r', rfl, Nat.le_refl _, hr', Nat.le_refl _, List.take_of_length_le (Nat.le_refl _)⟩
      have := this.cut (nl_le r')
      rw [hl'] at this
      exact this
    · rw [val_take_nl, hv', val_append]; simp [val]
    all_goals simp
end Go.Proofs.YtinjikoocegooaaGreatDoor.Li
set_option linter.unusedVariables false
set_option linter.unusedSimpArgs false
namespace Go.Proofs.YtinjikoocegooaaGreatDoor.Li
open Go.RowKit Lb
set_option maxRecDepth 100000 in
set_option maxHeartbeats 400000 in
theorem Add_any (a b : Option Addr) (ca cb : Nat) (la lb : List Nat) (w : World) (hca : la.length ≤ ca) (hcb : lb.length ≤ cb) (hla : la.length ≤ 70368744177663) (hlb : lb.length ≤ 70368744177663) (hra : Rd w a la) (hrb : Rd w b lb) (hma : Lim la) (hmb : Lim lb) :
    Calls Tryz.prog 27 #[.slice a la.length ca, .slice b lb.length cb] w fun e w' => ∃ v, e = .returned v ∧ NatR w.heap.size w' v (val la + val lb) ∧ Keep w w' := by
  have h1 := nl_le la
  have h2 := nl_le lb
  have e1 : (la.take (nl la)).length = nl la := by simp; omega
  have e2 : (lb.take (nl lb)).length = nl lb := by simp; omega
  have hc := sum_any a b ca cb (la.take (nl la)) (lb.take (nl lb)) w (by omega) (by omega) (hra.take _) (hrb.take _) (Lim_take hma _) (Lim_take hmb _)
  rw [e1, e2, val_take_nl, val_take_nl] at hc
  have t1 := trim_any a ca la w hca (by omega) hra
  have t2 := trim_any b cb lb w hcb (by omega) hrb
  go_enter Tryz.func27, Tryz.ntmps27
  go_wp2_with fail
  refine t1.mono ?_
  rintro e w' ⟨rfl, rfl⟩
  go_wp2_with fail
  refine t2.mono ?_
  rintro e w' ⟨rfl, rfl⟩
  go_wp2_with fail
  refine hc.mono ?_
  rintro e w1 ⟨v, rfl, hn, hk⟩
  go_wp2
  go_ret
  exact ⟨_, rfl, hn, hk⟩
end Go.Proofs.YtinjikoocegooaaGreatDoor.Li
set_option linter.unusedVariables false
set_option linter.unusedSimpArgs false
namespace Go.Proofs.YtinjikoocegooaaGreatDoor.Li
open Go.RowKit Lb
def cmpN (x y : Nat) : Int := if x < y then -1 else if y < x then 1 else 0
theorem cmpTop_eq (a b : List Nat) (ha : Lim a) (hb : Lim b) : ∀ k, k ≤ a.length → k ≤ b.length → cmpTop a b k = cmpN (val (a.take k)) (val (b.take k)) := by
  intro k
  induction k with
  | zero => intro _ _; simp [cmpTop, cmpN, val]
  | succ k ih =>
    intro h1 h2
    have e1 := val_take_succ a k
    have e2 := val_take_succ b k
    have l1 : val (a.take k) < 4294967296 ^ k := by
      have := val_lt (Lim_take ha k); rwa [show (a.take k).length = k by simp; omega] at this
    have l2 : val (b.take k) < 4294967296 ^ k := by
      have := val_lt (Lim_take hb k); rwa [show (b.take k).length = k by simp; omega] at this
    have ih' := ih (by omega) (by omega)
    rw [cmpTop]
    generalize 4294967296 ^ k = X at *
    rcases Nat.lt_trichotomy (a.getD k 0) (b.getD k 0) with h | h | h
    · have := Nat.mul_le_mul_right X (show a.getD k 0 + 1 ≤ b.getD k 0 from h)
      rw [Nat.add_mul] at this
      rw [if_pos h]; unfold cmpN; rw [if_pos (by omega)]
    · rw [if_neg (by omega), if_neg (by omega), ih', e1, e2, h]
      unfold cmpN
      simp only [Nat.add_lt_add_iff_right]
    · have := Nat.mul_le_mul_right X (show b.getD k 0 + 1 ≤ a.getD k 0 from h)
      rw [Nat.add_mul] at this
      rw [if_neg (by omega), if_pos h]; unfold cmpN; rw [if_neg (by omega), if_pos (by omega)]
theorem len_lt_val {a b : List Nat} (ha : Lim a) (nb : Nrm b) (h : a.length < b.length) : val a < val b := by
  have h1 := val_lt ha
  have h2 := val_ge nb (by intro h0; simp [h0] at h)
  have h3 : 4294967296 ^ a.length ≤ 4294967296 ^ (b.length - 1) := Nat.pow_le_pow_right (by omega) (by omega)
  omega
theorem cmpL_eq (a b : List Nat) (ha : Lim a) (hb : Lim b) (na : Nrm a) (nb : Nrm b) : cmpL a b = cmpN (val a) (val b) := by
  unfold cmpL
  split
  · rename_i h
    unfold cmpN; rw [if_pos (len_lt_val ha nb h)]
  · split
    · rename_i h
      have := len_lt_val hb na h
      unfold cmpN; rw [if_neg (by omega), if_pos this]
    · have hl : a.length = b.length := by omega
      rw [cmpTop_eq a b ha hb _ (Nat.le_refl _) (by omega), List.take_of_length_le (Nat.le_refl _), hl, List.take_of_length_le (Nat.le_refl _)]
theorem cmpL_lt {a b : List Nat} (ha : Lim a) (hb : Lim b) (na : Nrm a) (nb : Nrm b) (h : val a < val b) : cmpL a b = -1 := by rw [cmpL_eq a b ha hb na nb, cmpN, if_pos h]
theorem cmpL_ge {a b : List Nat} (ha : Lim a) (hb : Lim b) (na : Nrm a) (nb : Nrm b) (h : ¬ val a < val b) : 0 ≤ cmpL a b := by
  rw [cmpL_eq a b ha hb na nb, cmpN, if_neg h]; split <;> omega
end Go.Proofs.YtinjikoocegooaaGreatDoor.Li
