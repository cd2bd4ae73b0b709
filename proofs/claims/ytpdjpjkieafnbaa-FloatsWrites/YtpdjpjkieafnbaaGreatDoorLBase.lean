import Derived.Test.YtpdjpjkieafnbaaGreatDoorProg
import Derived.WalkKit
import Derived.WalkSpells
import Derived.WalkLawsBesides
import Derived.Laws.CopyOwn
import Derived.Deep.Draws
import Derived.Deep.QuietTactic
import Derived.BigQuiet
set_option linter.unusedVariables false
set_option linter.unusedSimpArgs false
namespace Lb
/-- The natural that limbs say, the lowest first. -/
def val : List Nat → Nat
  | [] => 0
  | x :: xs => x + 4294967296 * val xs
def Lim (l : List Nat) : Prop := ∀ x ∈ l, x < 4294967296
/-- How many limbs are left when the needless ones are gone. -/
def nl : List Nat → Nat
  | [] => 0
  | x :: xs => if nl xs = 0 then (if x = 0 then 0 else 1) else nl xs + 1
/-- The last limb is not 0. -/
def Nrm (l : List Nat) : Prop := l.getLastD 1 ≠ 0
theorem nl_le (l : List Nat) : nl l ≤ l.length := by
  induction l with
  | nil => simp [nl]
  | cons x xs ih => simp only [nl, List.length_cons]; split <;> (try split) <;> omega
theorem nl_zero (l : List Nat) : ∀ j, nl l ≤ j → l.getD j 0 = 0 := by
  induction l with
  | nil => intro j _; simp
  | cons x xs ih =>
    intro j hj
    simp only [nl] at hj
    cases j with
    | zero => split at hj <;> (try split at hj) <;> simp_all
    | succ j => 
      rw [List.getD_cons_succ]
      apply ih
      split at hj <;> (try split at hj) <;> omega
theorem nl_top (l : List Nat) (h : 0 < nl l) : l.getD (nl l - 1) 0 ≠ 0 := by
  induction l with
  | nil => simp [nl] at h
  | cons x xs ih =>
    simp only [nl] at h ⊢
    split
    · rename_i h0
      simp only [h0] at h
      split
      · simp_all
      · simpa
    · rename_i h0
      have := ih (by omega)
      rw [show nl xs + 1 - 1 = (nl xs - 1) + 1 from by omega, List.getD_cons_succ]
      exact this
/-- What a loop from the end finds is nl. -/
theorem nl_eq (l : List Nat) (n : Nat) (hz : ∀ j, n ≤ j → l.getD j 0 = 0) (ht : 0 < n → l.getD (n - 1) 0 ≠ 0) : nl l = n := by
  rcases Nat.lt_trichotomy (nl l) n with h | h | h
  · exact absurd (nl_zero l (n - 1) (by omega)) (ht (by omega))
  · exact h
  · exact absurd (hz (nl l - 1) (by omega)) (nl_top l (by omega))
theorem val_append (a b : List Nat) : val (a ++ b) = val a + 4294967296 ^ a.length * val b := by
  induction a with
  | nil => simp [val]
  | cons x xs ih => simp only [List.cons_append, val, ih, List.length_cons, Nat.pow_succ]; rw [Nat.mul_add, ← Nat.mul_assoc, Nat.mul_comm 4294967296 (4294967296 ^ _)]; omega
theorem val_zeros (l : List Nat) (h : ∀ j, l.getD j 0 = 0) : val l = 0 := by
  induction l with
  | nil => rfl
  | cons x xs ih =>
    have h0 := h 0
    have := ih (fun j => by have := h (j + 1); simpa using this)
    simp at h0
    simp [val, this, h0]
theorem val_take_nl (l : List Nat) : val (l.take (nl l)) = val l := by
  have e := val_append (l.take (nl l)) (l.drop (nl l))
  rw [List.take_append_drop] at e
  rw [e, val_zeros (l.drop (nl l))]
  · omega
  · intro j; have := nl_zero l (nl l + j) (by omega); simpa [List.getD] using this
theorem Nrm_take (l : List Nat) : Nrm (l.take (nl l)) := by
  unfold Nrm
  by_cases h : nl l = 0
  · simp [h]
  · have ht := nl_top l (by omega)
    have hle := nl_le l
    have hlen : (l.take (nl l)).length = nl l := by simp; omega
    rw [List.getLastD_eq_getLast?, List.getLast?_eq_getElem?, hlen, List.getElem?_take_of_lt (by omega)]
    rw [List.getD] at ht
    rw [List.getElem?_eq_getElem (by omega)] at ht ⊢
    simpa using ht
theorem Lim_take {l : List Nat} (h : Lim l) (n : Nat) : Lim (l.take n) := fun x hx => h x (List.mem_of_mem_take hx)
theorem Lim_drop {l : List Nat} (h : Lim l) (n : Nat) : Lim (l.drop n) := fun x hx => h x (List.mem_of_mem_drop hx)
theorem Lim_getD {l : List Nat} (h : Lim l) (j : Nat) : l.getD j 0 < 4294967296 := by
  by_cases hj : j < l.length
  · have := h (l[j]) (List.getElem_mem hj); simpa [List.getD, hj] using this
  · simp [List.getD, List.getElem?_eq_none (by omega : l.length ≤ j)]
theorem val_lt {l : List Nat} (h : Lim l) : val l < 4294967296 ^ l.length := by
  induction l with
  | nil => simp [val]
  | cons x xs ih =>
    have h1 : x < 4294967296 := h x (by simp)
    have h2 := ih (fun y hy => h y (by simp [hy]))
    simp only [val, List.length_cons, Nat.pow_succ]
    omega
theorem val_ge {l : List Nat} (hn : Nrm l) (h : l ≠ []) : 4294967296 ^ (l.length - 1) ≤ val l := by
  induction l with
  | nil => exact absurd rfl h
  | cons x xs ih =>
    cases xs with
    | nil => unfold Nrm at hn; simp at hn; simp [val]; omega
    | cons y ys =>
      have h2 := ih (by unfold Nrm at hn ⊢; simpa using hn) (by simp)
      simp only [List.length_cons] at h2 ⊢
      rw [show ys.length + 1 + 1 - 1 = (ys.length + 1 - 1) + 1 from by omega, Nat.pow_succ]
      rw [val]
      omega
/-- Two naturals without needless limbs that say the same are alike. -/
theorem val_inj : ∀ {a b : List Nat}, Lim a → Lim b → Nrm a → Nrm b → val a = val b → a = b := by
  intro a
  induction a with
  | nil =>
    intro b _ _ _ hb e
    cases b with
    | nil => rfl
    | cons y ys =>
      have := val_ge hb (by simp)
      have h1 : 0 < 4294967296 ^ ((y :: ys).length - 1) := Nat.pos_of_ne_zero (by simp)
      simp only [val] at e this; omega
  | cons x xs ih =>
    intro b ha hb na nb e
    cases b with
    | nil =>
      have := val_ge na (by simp)
      have h1 : 0 < 4294967296 ^ ((x :: xs).length - 1) := Nat.pos_of_ne_zero (by simp)
      simp only [val] at e this; omega
    | cons y ys =>
      have hx : x < 4294967296 := ha x (by simp)
      have hy : y < 4294967296 := hb y (by simp)
      simp only [val] at e
      have e1 : x = y := by omega
      have e2 : val xs = val ys := by omega
      have n1 : Nrm xs := by
        unfold Nrm at na ⊢
        cases xs with
        | nil => simp
        | cons z zs => simpa using na
      have n2 : Nrm ys := by
        unfold Nrm at nb ⊢
        cases ys with
        | nil => simp
        | cons z zs => simpa using nb
      rw [e1, ih (fun z hz => ha z (by simp [hz])) (fun z hz => hb z (by simp [hz])) n1 n2 e2]
theorem val_set (l : List Nat) (j x : Nat) (hj : j < l.length) : val (l.set j x) + l.getD j 0 * 4294967296 ^ j = val l + x * 4294967296 ^ j := by
  induction l generalizing j with
  | nil => simp at hj
  | cons y ys ih =>
    cases j with
    | zero => simp [val]; omega
    | succ j =>
      have := ih j (by simpa using hj)
      simp only [List.set_cons_succ, val, List.getD_cons_succ, Nat.pow_succ]
      have e1 : ys.getD j 0 * (4294967296 ^ j * 4294967296) = 4294967296 * (ys.getD j 0 * 4294967296 ^ j) := by rw [← Nat.mul_assoc, Nat.mul_comm]
      have e2 : x * (4294967296 ^ j * 4294967296) = 4294967296 * (x * 4294967296 ^ j) := by rw [← Nat.mul_assoc, Nat.mul_comm]
      rw [e1, e2]
      omega
theorem val_take_succ (l : List Nat) (k : Nat) : val (l.take (k + 1)) = val (l.take k) + l.getD k 0 * 4294967296 ^ k := by
  induction l generalizing k with
  | nil => simp [val]
  | cons y ys ih =>
    cases k with
    | zero => simp [val]
    | succ k =>
      have := ih k
      simp only [List.take_succ_cons, val, List.getD_cons_succ, Nat.pow_succ, this]
      have e1 : ys.getD k 0 * (4294967296 ^ k * 4294967296) = 4294967296 * (ys.getD k 0 * 4294967296 ^ k) := by rw [← Nat.mul_assoc, Nat.mul_comm]
      rw [e1]; omega
theorem Lim_set {l : List Nat} (h : Lim l) (j x : Nat) (hx : x < 4294967296) : Lim (l.set j x) := by
  intro y hy
  rcases List.mem_or_eq_of_mem_set hy with h1 | h1
  · exact h y h1
  · omega
theorem addStep (rk : List Nat) (j t x y V : Nat) (hj : j < rk.length) (hx : rk.getD j 0 = x) (hv : val rk + t * 4294967296 ^ j = V) :
    val (rk.set j ((t + (x + y)) % 4294967296)) + ((t + (x + y)) / 4294967296) * 4294967296 ^ (j + 1) = V + y * 4294967296 ^ j := by
  have h1 := val_set rk j ((t + (x + y)) % 4294967296) hj
  rw [hx] at h1
  have h2 : (t + (x + y)) * 4294967296 ^ j = (t + (x + y)) / 4294967296 * 4294967296 ^ (j + 1) + (t + (x + y)) % 4294967296 * 4294967296 ^ j := by
    rw [Nat.pow_succ, Nat.mul_comm (4294967296 ^ j) 4294967296, ← Nat.mul_assoc, ← Nat.add_mul, Nat.div_add_mod']
  rw [Nat.add_mul, Nat.add_mul] at h2
  omega
theorem val_ge_pow {l : List Nat} (_h : Lim l) (j t : Nat) (V : Nat) (hj : l.length ≤ j) (ht : 0 < t) (hv : val l + t * 4294967296 ^ j = V) (hV : V < 4294967296 ^ l.length) : False := by
  have h1 : 4294967296 ^ l.length ≤ 4294967296 ^ j := Nat.pow_le_pow_right (by omega) hj
  have h2 : 4294967296 ^ j ≤ t * 4294967296 ^ j := Nat.le_mul_of_pos_left _ ht
  omega
end Lb
set_option linter.unusedVariables false
set_option linter.unusedSimpArgs false
namespace Go.Proofs.YtpdjpjkieafnbaaGreatDoor.Li
open Go.RowKit Lb
theorem ret_int {k : IntKind} {a b : Int} (h : a = b) : Ending.returned (.int k a) = .returned (.int k b) := by rw [h]
theorem ret_bool {a b : Bool} (h : a = b) : Ending.returned (.bool a) = .returned (.bool b) := by rw [h]
/-- Limbs as cells. -/
def U (l : List Nat) : List Value := l.map (fun x => Value.int .u32 (x : Nat))
theorem U_length (l : List Nat) : (U l).length = l.length := by simp [U]
theorem U_get (l : List Nat) (j : Nat) (h : j < l.length) : (U l)[j]? = some (.int .u32 (l.getD j 0 : Nat)) := by simp [U, List.getD, h]
theorem U_one (l : List Nat) : ∀ v ∈ U l, v.oneCell' = true := by
  intro v hv; obtain ⟨_, _, rfl⟩ := List.mem_map.1 hv; rfl
/-- A block that holds limbs. -/
def Row (w : World) (g : Nat) (l : List Nat) : Prop := w.heap[g]? = some (.cells (U l).toArray 40 (0, 0))
/-- Nothing that was there has turned. -/
def Keep (w w' : World) : Prop := Below w.heap.size w w'
/-- Only block g has turned. -/
structure Mut (g : Nat) (w w' : World) : Prop where
  os : w'.os = w.os
  tape : w'.tape = w.tape
  output : w'.output = w.output
  size : w'.heap.size = w.heap.size
  block : ∀ k, k ≠ g → w'.heap[k]? = w.heap[k]?
/-- What a slice at that address reads as. -/
def Rd (w : World) (a : Option Addr) (l : List Nat) : Prop :=
  ∀ j, j < l.length → ∃ b o, a = some ⟨b, o, none⟩ ∧ w.cell? ⟨b, o + j, none⟩ = some (.int .u32 (l.getD j 0 : Nat))
/-- A slice over a block of the call's own, from its head on. -/
def Res (B : Nat) (w : World) (v : Value) (l : List Nat) : Prop :=
  (v = .slice none 0 0 ∧ l = []) ∨ ∃ g r, v = .slice (some ⟨g, 0, none⟩) l.length r.length ∧ B ≤ g ∧ Row w g r ∧ l.length ≤ r.length ∧ r.take l.length = l
theorem Row.lt {w : World} {g : Nat} {l : List Nat} (h : Row w g l) : g < w.heap.size := (Array.getElem?_eq_some_iff.1 h).1
theorem Row.cell {w : World} {g : Nat} {l : List Nat} (h : Row w g l) (j : Nat) (hj : j < l.length) : w.cell? ⟨g, j, none⟩ = some (.int .u32 (l.getD j 0 : Nat)) := by
  rw [cell_of_row w g j _ 40 (0, 0) h]; simpa using U_get l j hj
theorem Row.frozen {w : World} {g : Nat} {l : List Nat} (h : Row w g l) (j : Nat) : w.frozen? ⟨g, j, none⟩ = false := frozen_of_row w g j _ 40 h
theorem Row.set {w : World} {g : Nat} {l : List Nat} (h : Row w g l) (j x : Nat) : Row (w.setCell ⟨g, j, none⟩ (.int .u32 (x : Nat))) g (l.set j x) := by
  have := heap_setCell_same w g j _ 40 (.int .u32 (x : Nat)) h
  unfold Row
  rw [this]
  simp [U, List.map_set]
theorem Row.drewN {w : World} {g : Nat} {l : List Nat} (h : Row w g l) (q : Nat) : Row (w.drewN q) g l := h
theorem Row.keep {w w' : World} {g : Nat} {l : List Nat} (h : Row w g l) (k : Keep w w') : Row w' g l := by
  unfold Row; rw [k.block g h.lt]; exact h
theorem Row.mut {w w' : World} {g g' : Nat} {l : List Nat} (h : Row w g l) (k : Mut g' w w') (hne : g ≠ g') : Row w' g l := by
  unfold Row; rw [k.block g hne]; exact h
theorem Row.rd {w : World} {g : Nat} {l : List Nat} (h : Row w g l) (o n : Nat) (hn : o + n ≤ l.length) : Rd w (some ⟨g, o, none⟩) ((l.drop o).take n) := by
  intro j hj
  refine ⟨g, o, rfl, ?_⟩
  have h1 : j < n := by simp at hj; omega
  rw [h.cell (o + j) (by omega)]
  simp [List.getD, h1]
theorem Keep.refl (w : World) : Keep w w := Below.refl _ _
theorem Keep.trans {a b c : World} (h : Keep a b) (k : Keep b c) : Keep a c := Below.trans h (Below.mono k h.size)
theorem Keep.drewN {a b : World} (h : Keep a b) (q : Nat) : Keep a (b.drewN q) := ⟨h.os, h.tape, h.output, h.size, h.block⟩
theorem Keep.drew {a b : World} (h : Keep a b) : Keep a b.drew := Below.drew h
theorem Keep.alloc {a b : World} (h : Keep a b) (o : Obj) : Keep a (b.alloc o) := Below.alloc h h.size o
theorem Keep.mut {a b c : World} {g : Nat} (h : Keep a b) (k : Mut g b c) (hg : a.heap.size ≤ g) : Keep a c :=
  Below.trans h ⟨k.os, k.tape, k.output, by rw [k.size]; exact Nat.le_refl _, fun i hi => k.block i (by omega)⟩
theorem Keep.setCell {a b : World} (h : Keep a b) {p : Addr} (hp : a.heap.size ≤ p.block) (u : Value) : Keep a (b.setCell p u) := Below.setCell h hp u
theorem Keep.cell {a b : World} (h : Keep a b) {p : Addr} {v : Value} (hc : a.cell? p = some v) : b.cell? p = some v :=
  (Below.cell h (World.block_lt_of_cell? a p hc)).trans hc
theorem Keep.le {a b : World} (h : Keep a b) : a.heap.size ≤ b.heap.size := h.size
theorem Mut.refl (g : Nat) (w : World) : Mut g w w := ⟨rfl, rfl, rfl, rfl, fun _ _ => rfl⟩
theorem Mut.trans {g : Nat} {a b c : World} (h : Mut g a b) (k : Mut g b c) : Mut g a c :=
  ⟨k.os.trans h.os, k.tape.trans h.tape, k.output.trans h.output, k.size.trans h.size, fun i hi => (k.block i hi).trans (h.block i hi)⟩
theorem Mut.drewN {g : Nat} {a b : World} (h : Mut g a b) (q : Nat) : Mut g a (b.drewN q) := ⟨h.os, h.tape, h.output, h.size, h.block⟩
theorem Mut.drew {g : Nat} {a b : World} (h : Mut g a b) : Mut g a b.drew := ⟨h.os, h.tape, h.output, h.size, h.block⟩
theorem Mut.setCell {g : Nat} {a b : World} (h : Mut g a b) (j : Nat) (u : Value) : Mut g a (b.setCell ⟨g, j, none⟩ u) :=
  h.trans ⟨rfl, rfl, rfl, by simp, fun k hk => Below.heap_setCell _ _ _ _ (by simpa using hk)⟩
theorem Mut.cell {g : Nat} {a b : World} (h : Mut g a b) {p : Addr} {v : Value} (hp : p.block ≠ g) (hc : a.cell? p = some v) : b.cell? p = some v :=
  (World.cell?_of_block (h.block p.block hp)).trans hc
theorem Mut.setRow (w : World) (g : Nat) (cs : Array Value) : Mut g w (w.setRow g cs) :=
  ⟨rfl, rfl, rfl, by simp, fun k hk => setRow_other w g k cs hk⟩
theorem Rd.keep {w w' : World} {a : Option Addr} {l : List Nat} (h : Rd w a l) (k : Keep w w') : Rd w' a l := by
  intro j hj
  obtain ⟨b, o, e, hc⟩ := h j hj
  exact ⟨b, o, e, k.cell hc⟩
theorem Rd.take {w : World} {a : Option Addr} {l : List Nat} (h : Rd w a l) (n : Nat) : Rd w a (l.take n) := by
  intro j hj
  have h1 : j < n ∧ j < l.length := by simp at hj; omega
  obtain ⟨b, o, e, hc⟩ := h j h1.2
  exact ⟨b, o, e, by rw [hc]; simp [List.getD, h1.1]⟩
theorem Rd.nil (w : World) (a : Option Addr) : Rd w a [] := by intro j hj; simp at hj
/-- None of its cells lies in block g. -/
def Off (g : Nat) (a : Option Addr) (l : List Nat) : Prop := ∀ b o s, a = some ⟨b, o, s⟩ → l ≠ [] → b ≠ g
theorem Rd.mut {w w' : World} {a : Option Addr} {l : List Nat} {g : Nat} (h : Rd w a l) (k : Mut g w w') (ho : Off g a l) : Rd w' a l := by
  intro j hj
  obtain ⟨b, o, e, hc⟩ := h j hj
  exact ⟨b, o, e, k.cell (ho b o _ e (by intro h; simp [h] at hj)) hc⟩
theorem Off.of_lt {w : World} {a : Option Addr} {l : List Nat} {g : Nat} (h : Rd w a l) (hg : w.heap.size ≤ g) : Off g a l := by
  intro b o s e hl
  have h0 : 0 < l.length := List.length_pos_iff.2 hl
  obtain ⟨b', o', e', hc⟩ := h 0 h0
  have := World.block_lt_of_cell? w _ hc
  rw [e] at e'
  simp at e'
  simp at this
  omega
theorem Res.keep {B : Nat} {w w' : World} {v : Value} {l : List Nat} (h : Res B w v l) (k : Keep w w') : Res B w' v l := by
  rcases h with h | ⟨g, r, e, hb, hr, h1, h2⟩
  · exact .inl h
  · exact .inr ⟨g, r, e, hb, hr.keep k, h1, h2⟩
theorem Res.mono {B B' : Nat} {w : World} {v : Value} {l : List Nat} (h : Res B w v l) (hB : B' ≤ B) : Res B' w v l := by
  rcases h with h | ⟨g, r, e, hb, hr, h1, h2⟩
  · exact .inl h
  · exact .inr ⟨g, r, e, by omega, hr, h1, h2⟩
/-- Its shape, and what it reads as. -/
theorem Res.shape {B : Nat} {w : World} {v : Value} {l : List Nat} (h : Res B w v l) : ∃ a c, v = .slice a l.length c ∧ l.length ≤ c ∧ Rd w a l := by
  rcases h with ⟨rfl, rfl⟩ | ⟨g, r, e, hb, hr, h1, h2⟩
  · exact ⟨none, 0, rfl, Nat.le_refl _, Rd.nil _ _⟩
  · refine ⟨some ⟨g, 0, none⟩, r.length, e, h1, ?_⟩
    have := hr.rd 0 l.length (by omega)
    rw [List.drop_zero, h2] at this
    exact this
/-- Cut shorter. -/
theorem Res.cut {B : Nat} {w : World} {a : Option Addr} {n c m : Nat} {l : List Nat} (h : Res B w (.slice a n c) l) (hm : m ≤ l.length) : Res B w (.slice a m c) (l.take m) := by
  rcases h with ⟨e, rfl⟩ | ⟨g, r, e, hb, hr, h1, h2⟩
  · simp at hm; simp at e; obtain ⟨rfl, rfl, rfl⟩ := e; subst hm; exact .inl ⟨rfl, rfl⟩
  · simp at e; obtain ⟨rfl, rfl, rfl⟩ := e
    refine .inr ⟨g, r, by simp [Nat.min_eq_left hm], hb, hr, by simp; omega, ?_⟩
    rw [← h2, List.take_take]; simp
theorem i62 : (Tryz.prog.info? 40).map (fun i => (i.zero, i.size, i.bytes)) = some (some (.int .u32 0), 1, 4) := by kernel_rfl
theorem s62 : (Tryz.prog.info? 40).map (·.size) = some 1 := by kernel_rfl
theorem made32 (n : Nat) : madeCells (Value.int .u32 0).cells n = (U (List.replicate n 0)).toArray := by
  have := toList_madeCells_one (.int .u32 0) n
  rw [← Array.toList_inj]
  simp only [U, List.map_replicate]
  exact this
/-- make([]uint32, n). -/
theorem wpList_make32 (w : World) {ops : Array Oper} {rest : List Oper} {o : Oper} {a : Act} {Q : Exit → Act → World → Prop}
    (hg : o.guard = none) (l c : Operand) (hop : o.op = Op.makeSlice 52 l c) (kl kc : IntKind) (L C : Int) (n : Nat) (hl : a.eval l = .int kl L) (hc : a.eval c = .int kc C) (hL : L = (n : Int)) (hC : C = (n : Int)) (hn : n ≤ 70368744177664)
    (hK : ∀ w', Row w' w.heap.size (List.replicate n 0) → Keep w w' → w'.heap.size = w.heap.size + 1 → wpList Tryz.prog ops Q rest (a.put o.dst (.slice (some ⟨w.heap.size, 0, none⟩) n n)) w') :
    wpList Tryz.prog ops Q (o :: rest) a w := by
  refine wpList_plain hg fun K hK' => ?_
  obtain ⟨i, hi, hz0, hz1, hz2⟩ := info_parts i62
  have hr := run_make (P := Tryz.prog) w 52 40 i _ Tryz.underlying52 hi hz0 kl kc n n (by omega) (by omega) (by rw [hz2]; omega) (by omega)
  subst hL
  subst hC
  rw [hz1] at hr
  unfold Oper.wp
  simp only [Int.toNat_natCast, Nat.mul_one, made32] at hr
  simp [execOp, hop, hl, hc, hr, Result.andThen]
  exact hK' _ _ (hK _ (heap_alloc_new w _) ((Keep.refl w).alloc _) (by simp))
/-- copy(dst, src) into a row of the call's own. -/
theorem wpList_copy32 {w : World} {ops : Array Oper} {rest : List Oper} {o : Oper} {a : Act} {Q : Exit → Act → World → Prop} (hgd : o.guard = none) (d s : Operand)
    (ho : o.op = .call { callee := .builtin .copy, args := #[d, s], argTypes := #[52, 52] })
    (dp sp : Option Addr) (dLen dCap sCap : Nat) (l : List Nat) (hd : a.eval d = .slice dp dLen dCap) (hs : a.eval s = .slice sp l.length sCap)
    (g off : Nat) (r : List Nat) (hg : Row w g r) (hl : l.length ≤ dLen) (hdp : l ≠ [] → dp = some ⟨g, off, none⟩) (hr : Rd w sp l) (hfit : off + l.length ≤ r.length)
    (h : ∀ w', Row w' g (r.take off ++ (l ++ r.drop (off + l.length))) → Mut g w w' → wpList Tryz.prog ops Q rest (a.put o.dst (goInt l.length)) w') :
    wpList Tryz.prog ops Q (o :: rest) a w := by
  by_cases h0 : l = []
  · subst h0
    refine wpList_copy_nothing hgd d s 52 52 ho 40 Tryz.underlying52 s62 dp sp dLen dCap 0 sCap hd hs (Nat.zero_min _) ?_
    exact h w (by simpa using hg) (Mut.refl _ _)
  · obtain rfl := hdp h0
    obtain ⟨b, o', rfl, -⟩ := hr 0 (List.length_pos_iff.2 h0)
    refine wpList_copy_own hgd d s 52 52 ho 40 Tryz.underlying52 s62 g off dLen dCap ⟨b, o', none⟩ l.length sCap hd hs _ 40 hg (U l) (by rw [U_length]; exact (Nat.min_eq_left hl).symm) ?_ (by simpa [U_length] using hfit) (U_one l) ?_
    · intro j v hv
      have hj : j < l.length := by have := (List.getElem?_eq_some_iff.1 hv).1; simpa [U_length] using this
      rw [U_get l j hj] at hv
      obtain ⟨b2, o2, e, hc⟩ := hr j hj
      simp at e
      obtain ⟨rfl, rfl⟩ := e
      rw [Addr.add_lit, hc, hv]
    · rw [U_length]
      refine h _ ?_ (Mut.setRow _ _ _)
      unfold Row
      rw [setRow_heap w g _ _ 40 _ hg]
      simp [U, List.map_take, List.map_drop]
end Go.Proofs.YtpdjpjkieafnbaaGreatDoor.Li
