import Derived.Test.YtgciimjcdhallaaDoorProg
import Derived.WalkKit
import Derived.WalkSpells
import Derived.WalkLawsBesides
import Derived.Laws.CopyOwn
import Derived.Deep.Draws
import Derived.Deep.QuietTactic
import Derived.BigQuiet
import Derived.Laws.MathBits
set_option linter.unusedVariables false
set_option linter.unusedSimpArgs false
namespace Lb
/-- The natural that limbs say, the lowest first. -/
def val : List Nat → Nat
  | [] => 0
  | x :: xs => x + 4294967296 * val xs
def Lim (l : List Nat) : Prop := ∀ x ∈ l, x < 4294967296
/-- How many limbs are left when the needless ones are gone. -/
def nl : List Nat → Nat
  | [] => 0
  | x :: xs => if nl xs = 0 then (if x = 0 then 0 else 1) else nl xs + 1
/-- The last limb is not 0. -/
def Nrm (l : List Nat) : Prop := l.getLastD 1 ≠ 0
theorem nl_le (l : List Nat) : nl l ≤ l.length := by
  induction l with
  | nil => simp [nl]
  | cons x xs ih => simp only [nl, List.length_cons]; split <;> (try split) <;> omega
theorem nl_zero (l : List Nat) : ∀ j, nl l ≤ j → l.getD j 0 = 0 := by
  induction l with
  | nil => intro j _; simp
  | cons x xs ih =>
    intro j hj
    simp only [nl] at hj
    cases j with
    | zero => split at hj <;> (try split at hj) <;> simp_all
    | succ j => 
      rw [List.getD_cons_succ]
      apply ih
      split at hj <;> (try split at hj) <;> omega
theorem nl_top (l : List Nat) (h : 0 < nl l) : l.getD (nl l - 1) 0 ≠ 0 := by
  induction l with
  | nil => simp [nl] at h
  | cons x xs ih =>
    simp only [nl] at h ⊢
    split
    · rename_i h0
      simp only [h0] at h
      split
      · simp_all
      · simpa
    · rename_i h0
      have := ih (by omega)
      rw [show nl xs + 1 - 1 = (nl xs - 1) + 1 from by omega, List.getD_cons_succ]
      exact this
/-- What a loop from the end finds is nl. -/
theorem nl_eq (l : List Nat) (n : Nat) (hz : ∀ j, n ≤ j → l.getD j 0 = 0) (ht : 0 < n → l.getD (n - 1) 0 ≠ 0) : nl l = n := by
  rcases Nat.lt_trichotomy (nl l) n with h | h | h
  · exact absurd (nl_zero l (n - 1) (by omega)) (ht (by omega))
  · exact h
  · exact absurd (hz (nl l - 1) (by omega)) (nl_top l (by omega))
theorem val_append (a b : List Nat) : val (a ++ b) = val a + 4294967296 ^ a.length * val b := by
  induction a with
  | nil => simp [val]
  | cons x xs ih => simp only [List.cons_append, val, ih, List.length_cons, Nat.pow_succ]; rw [Nat.mul_add, ← Nat.mul_assoc, Nat.mul_comm 4294967296 (4294967296 ^ _)]; omega
theorem val_zeros (l : List Nat) (h : ∀ j, l.getD j 0 = 0) : val l = 0 := by
  induction l with
  | nil => rfl
  | cons x xs ih =>
    have h0 := h 0
    have := ih (fun j => by have := h (j + 1); simpa using this)
    simp at h0
    simp [val, this, h0]
theorem val_take_nl (l : List Nat) : val (l.take (nl l)) = val l := by
  have e := val_append (l.take (nl l)) (l.drop (nl l))
  rw [List.take_append_drop] at e
  rw [e, val_zeros (l.drop (nl l))]
  · omega
  · intro j; have := nl_zero l (nl l + j) (by omega); simpa [List.getD] using this
theorem Nrm_take (l : List Nat) : Nrm (l.take (nl l)) := by
  unfold Nrm
  by_cases h : nl l = 0
  · simp [h]
  · have ht := nl_top l (by omega)
    have hle := nl_le l
    have hlen : (l.take (nl l)).length = nl l := by simp; omega
    rw [List.getLastD_eq_getLast?, List.getLast?_eq_getElem?, hlen, List.getElem?_take_of_lt (by omega)]
    rw [List.getD] at ht
    rw [List.getElem?_eq_getElem (by omega)] at ht ⊢
    simpa using ht
theorem Lim_take {l : List Nat} (h : Lim l) (n : Nat) : Lim (l.take n) := fun x hx => h x (List.mem_of_mem_take hx)
theorem Lim_getD {l : List Nat} (h : Lim l) (j : Nat) : l.getD j 0 < 4294967296 := by
  by_cases hj : j < l.length
  · have := h (l[j]) (List.getElem_mem hj); simpa [List.getD, hj] using this
  · simp [List.getD, List.getElem?_eq_none (by omega : l.length ≤ j)]
theorem val_lt {l : List Nat} (h : Lim l) : val l < 4294967296 ^ l.length := by
  induction l with
  | nil => simp [val]
  | cons x xs ih =>
    have h1 : x < 4294967296 := h x (by simp)
    have h2 := ih (fun y hy => h y (by simp [hy]))
    simp only [val, List.length_cons, Nat.pow_succ]
    omega
theorem val_ge {l : List Nat} (hn : Nrm l) (h : l ≠ []) : 4294967296 ^ (l.length - 1) ≤ val l := by
  induction l with
  | nil => exact absurd rfl h
  | cons x xs ih =>
    cases xs with
    | nil => unfold Nrm at hn; simp at hn; simp [val]; omega
    | cons y ys =>
      have h2 := ih (by unfold Nrm at hn ⊢; simpa using hn) (by simp)
      simp only [List.length_cons] at h2 ⊢
      rw [show ys.length + 1 + 1 - 1 = (ys.length + 1 - 1) + 1 from by omega, Nat.pow_succ]
      rw [val]
      omega
theorem val_take_succ (l : List Nat) (k : Nat) : val (l.take (k + 1)) = val (l.take k) + l.getD k 0 * 4294967296 ^ k := by
  induction l generalizing k with
  | nil => simp [val]
  | cons y ys ih =>
    cases k with
    | zero => simp [val]
    | succ k =>
      have := ih k
      simp only [List.take_succ_cons, val, List.getD_cons_succ, Nat.pow_succ, this]
      have e1 : ys.getD k 0 * (4294967296 ^ k * 4294967296) = 4294967296 * (ys.getD k 0 * 4294967296 ^ k) := by rw [← Nat.mul_assoc, Nat.mul_comm]
      rw [e1]; omega
end Lb
set_option linter.unusedVariables false
set_option linter.unusedSimpArgs false
namespace Go.Proofs.YtgciimjcdhallaaDoor.Li
open Go.RowKit Lb
theorem ret_int {k : IntKind} {a b : Int} (h : a = b) : Ending.returned (.int k a) = .returned (.int k b) := by rw [h]
/-- Limbs as cells. -/
def U (l : List Nat) : List Value := l.map (fun x => Value.int .u32 (x : Nat))
theorem U_get (l : List Nat) (j : Nat) (h : j < l.length) : (U l)[j]? = some (.int .u32 (l.getD j 0 : Nat)) := by simp [U, List.getD, h]
/-- A block that holds limbs. -/
def Row (w : World) (g : Nat) (l : List Nat) : Prop := w.heap[g]? = some (.cells (U l).toArray 49 (0, 0))
/-- Nothing that was there has turned. -/
def Keep (w w' : World) : Prop := Below w.heap.size w w'
/-- Only block g has turned. -/
structure Mut (g : Nat) (w w' : World) : Prop where
  os : w'.os = w.os
  tape : w'.tape = w.tape
  output : w'.output = w.output
  size : w'.heap.size = w.heap.size
  block : ∀ k, k ≠ g → w'.heap[k]? = w.heap[k]?
/-- What a slice at that address reads as. -/
def Rd (w : World) (a : Option Addr) (l : List Nat) : Prop :=
  ∀ j, j < l.length → ∃ b o, a = some ⟨b, o, none⟩ ∧ w.cell? ⟨b, o + j, none⟩ = some (.int .u32 (l.getD j 0 : Nat))
/-- A slice over a block of the call's own, from its head on. -/
def Res (B : Nat) (w : World) (v : Value) (l : List Nat) : Prop :=
  (v = .slice none 0 0 ∧ l = []) ∨ ∃ g r, v = .slice (some ⟨g, 0, none⟩) l.length r.length ∧ B ≤ g ∧ Row w g r ∧ l.length ≤ r.length ∧ r.take l.length = l
theorem Row.lt {w : World} {g : Nat} {l : List Nat} (h : Row w g l) : g < w.heap.size := (Array.getElem?_eq_some_iff.1 h).1
theorem Row.cell {w : World} {g : Nat} {l : List Nat} (h : Row w g l) (j : Nat) (hj : j < l.length) : w.cell? ⟨g, j, none⟩ = some (.int .u32 (l.getD j 0 : Nat)) := by
  rw [cell_of_row w g j _ 49 (0, 0) h]; simpa using U_get l j hj
theorem Row.drewN {w : World} {g : Nat} {l : List Nat} (h : Row w g l) (q : Nat) : Row (w.drewN q) g l := h
theorem Row.keep {w w' : World} {g : Nat} {l : List Nat} (h : Row w g l) (k : Keep w w') : Row w' g l := by
  unfold Row; rw [k.block g h.lt]; exact h
theorem Row.rd {w : World} {g : Nat} {l : List Nat} (h : Row w g l) (o n : Nat) (hn : o + n ≤ l.length) : Rd w (some ⟨g, o, none⟩) ((l.drop o).take n) := by
  intro j hj
  refine ⟨g, o, rfl, ?_⟩
  have h1 : j < n := by simp at hj; omega
  rw [h.cell (o + j) (by omega)]
  simp [List.getD, h1]
theorem Keep.refl (w : World) : Keep w w := Below.refl _ _
theorem Keep.trans {a b c : World} (h : Keep a b) (k : Keep b c) : Keep a c := Below.trans h (Below.mono k h.size)
theorem Keep.drewN {a b : World} (h : Keep a b) (q : Nat) : Keep a (b.drewN q) := ⟨h.os, h.tape, h.output, h.size, h.block⟩
theorem Keep.alloc {a b : World} (h : Keep a b) (o : Obj) : Keep a (b.alloc o) := Below.alloc h h.size o
theorem Keep.cell {a b : World} (h : Keep a b) {p : Addr} {v : Value} (hc : a.cell? p = some v) : b.cell? p = some v :=
  (Below.cell h (World.block_lt_of_cell? a p hc)).trans hc
theorem Keep.le {a b : World} (h : Keep a b) : a.heap.size ≤ b.heap.size := h.size
theorem Mut.refl (g : Nat) (w : World) : Mut g w w := ⟨rfl, rfl, rfl, rfl, fun _ _ => rfl⟩
theorem Mut.trans {g : Nat} {a b c : World} (h : Mut g a b) (k : Mut g b c) : Mut g a c :=
  ⟨k.os.trans h.os, k.tape.trans h.tape, k.output.trans h.output, k.size.trans h.size, fun i hi => (k.block i hi).trans (h.block i hi)⟩
theorem Mut.drewN {g : Nat} {a b : World} (h : Mut g a b) (q : Nat) : Mut g a (b.drewN q) := ⟨h.os, h.tape, h.output, h.size, h.block⟩
theorem Mut.cell {g : Nat} {a b : World} (h : Mut g a b) {p : Addr} {v : Value} (hp : p.block ≠ g) (hc : a.cell? p = some v) : b.cell? p = some v :=
  (World.cell?_of_block (h.block p.block hp)).trans hc
theorem Rd.keep {w w' : World} {a : Option Addr} {l : List Nat} (h : Rd w a l) (k : Keep w w') : Rd w' a l := by
  intro j hj
  obtain ⟨b, o, e, hc⟩ := h j hj
  exact ⟨b, o, e, k.cell hc⟩
theorem Rd.take {w : World} {a : Option Addr} {l : List Nat} (h : Rd w a l) (n : Nat) : Rd w a (l.take n) := by
  intro j hj
  have h1 : j < n ∧ j < l.length := by simp at hj; omega
  obtain ⟨b, o, e, hc⟩ := h j h1.2
  exact ⟨b, o, e, by rw [hc]; simp [List.getD, h1.1]⟩
theorem Rd.nil (w : World) (a : Option Addr) : Rd w a [] := by intro j hj; simp at hj
theorem Res.keep {B : Nat} {w w' : World} {v : Value} {l : List Nat} (h : Res B w v l) (k : Keep w w') : Res B w' v l := by
  rcases h with h | ⟨g, r, e, hb, hr, h1, h2⟩
  · exact .inl h
  · exact .inr ⟨g, r, e, hb, hr.keep k, h1, h2⟩
theorem Res.mono {B B' : Nat} {w : World} {v : Value} {l : List Nat} (h : Res B w v l) (hB : B' ≤ B) : Res B' w v l := by
  rcases h with h | ⟨g, r, e, hb, hr, h1, h2⟩
  · exact .inl h
  · exact .inr ⟨g, r, e, by omega, hr, h1, h2⟩
/-- Its shape, and what it reads as. -/
theorem Res.shape {B : Nat} {w : World} {v : Value} {l : List Nat} (h : Res B w v l) : ∃ a c, v = .slice a l.length c ∧ l.length ≤ c ∧ Rd w a l := by
  rcases h with ⟨rfl, rfl⟩ | ⟨g, r, e, hb, hr, h1, h2⟩
  · exact ⟨none, 0, rfl, Nat.le_refl _, Rd.nil _ _⟩
  · refine ⟨some ⟨g, 0, none⟩, r.length, e, h1, ?_⟩
    have := hr.rd 0 l.length (by omega)
    rw [List.drop_zero, h2] at this
    exact this
theorem i62 : (Tryd.prog.info? 49).map (fun i => (i.zero, i.size, i.bytes)) = some (some (.int .u32 0), 1, 4) := by kernel_rfl
end Go.Proofs.YtgciimjcdhallaaDoor.Li
set_option linter.unusedVariables false
set_option linter.unusedSimpArgs false
namespace Go.Proofs.YtgciimjcdhallaaDoor.Li
open Go.RowKit Lb
/-- Only the count of draws has moved on. -/
def Dr (w w' : World) : Prop := ∃ q, w' = w.drewN q
theorem Dr.refl (w : World) : Dr w w := ⟨0, rfl⟩
theorem Dr.drewN {w w' : World} (h : Dr w w') (q : Nat) : Dr w (w'.drewN q) := by obtain ⟨n, rfl⟩ := h; exact ⟨n + q, World.drewN_drewN _ _ _⟩
theorem Dr.cell {w w' : World} (h : Dr w w') (a : Addr) : w'.cell? a = w.cell? a := by obtain ⟨n, rfl⟩ := h; rfl
theorem Dr.keep {w w' : World} (h : Dr w w') : Keep w w' := by obtain ⟨n, rfl⟩ := h; exact (Keep.refl w).drewN n
theorem Dr.trans {a b c : World} (h : Dr a b) (k : Dr b c) : Dr a c := by obtain ⟨n, rfl⟩ := k; exact h.drewN n
def cmpTop (a b : List Nat) : Nat → Int
  | 0 => 0
  | k + 1 => if a.getD k 0 < b.getD k 0 then -1 else if b.getD k 0 < a.getD k 0 then 1 else cmpTop a b k
def cmpL (a b : List Nat) : Int := if a.length < b.length then -1 else if b.length < a.length then 1 else cmpTop a b a.length
end Go.Proofs.YtgciimjcdhallaaDoor.Li
set_option linter.unusedVariables false
set_option linter.unusedSimpArgs false
namespace Go.Proofs.YtgciimjcdhallaaDoor.Li
open Go.RowKit Lb
/-- A slice that owns its limbs (made by append). -/
def Own (B : Nat) (w : World) (v : Value) (l : List Nat) : Prop := w.ownsRow B 49 1 v l.length (U l)
theorem Own.keep {B : Nat} {w w' : World} {v : Value} {l : List Nat} (h : Own B w v l) (k : Keep w w') : Own B w' v l := by
  refine ⟨h.1, ?_⟩
  rcases h.2 with h2 | ⟨g, cap, cur, hv, hg, hh, r⟩
  · exact .inl h2
  · exact .inr ⟨g, cap, cur, hv, hg, by rw [k.block g (Array.getElem?_eq_some_iff.1 hh).1]; exact hh, r⟩
theorem Own.mono {B B' : Nat} {w : World} {v : Value} {l : List Nat} (h : Own B w v l) (hB : B' ≤ B) : Own B' w v l := by
  refine ⟨h.1, ?_⟩
  rcases h.2 with h2 | ⟨g, cap, cur, hv, hg, r⟩
  · exact .inl h2
  · exact .inr ⟨g, cap, cur, hv, by omega, r⟩
theorem Own.shape {B : Nat} {w : World} {v : Value} {l : List Nat} (h : Own B w v l) : ∃ a c, v = .slice a l.length c ∧ l.length ≤ c ∧ Rd w a l := by
  rcases h.2 with ⟨h1, h2⟩ | ⟨g, cap, cur, hv, hg, hh, h1, h2, h3, h4⟩
  · exact ⟨none, 0, by rw [h1, h2], by omega, fun j hj => by omega⟩
  · refine ⟨some ⟨g, 0, none⟩, cap, hv, h1, ?_⟩
    intro j hj
    refine ⟨g, 0, rfl, ?_⟩
    rw [Nat.zero_add, cell_of_row w g j cur 49 (0, 0) hh, ← U_get l j hj, ← h4]
    simp [hj]
end Go.Proofs.YtgciimjcdhallaaDoor.Li
set_option linter.unusedVariables false
set_option linter.unusedSimpArgs false
namespace Go.Proofs.YtgciimjcdhallaaDoor.Li
open Go.RowKit Lb
def lenB (l : List Nat) : Nat := if nl l = 0 then 0 else 32 * (nl l - 1) + bitLen (l.getD (nl l - 1) 0)
theorem bitLen_half (x : Nat) (h : 0 < x) : bitLen x = bitLen (x / 2) + 1 := by
  by_cases h1 : x / 2 = 0
  · have : x = 1 := by omega
    subst this; decide
  · have := bitLen_shift x 1 (by simpa using h1)
    simp at this; omega
theorem bitLen_le (x : Nat) (h : x < 4294967296) : bitLen x ≤ 32 := by
  unfold bitLen
  split
  · omega
  · rename_i h0
    have := (Nat.log2_lt h0).2 (show x < 2 ^ 32 from h)
    omega
end Go.Proofs.YtgciimjcdhallaaDoor.Li
