import Derived.Test.YtgciimjcdhallaaDoorProg
import Derived.Test.YtgciimjcdhallaaDoorLLLC5
import Derived.WalkKit
import Derived.WalkSpells
import Derived.WalkLawsBesides
import Derived.Laws.CopyOwn
import Derived.Deep.Draws
import Derived.Deep.QuietTactic
import Derived.BigQuiet
import Derived.Laws.MathBits
import Derived.Shelf.Small.Bits
import Derived.Laws.BytesArg
import Derived.Lib.OthersKept
import Derived.Deep.RegionWith
set_option linter.unusedVariables false
set_option linter.unusedSimpArgs false
namespace Go.Proofs.YtgciimjcdhallaaDoor.Li
open Go.RowKit Lb
/-- A natural without needless limbs, in memory of the call's own. -/
def NatR (B : Nat) (w : World) (v : Value) (n : Nat) : Prop := ∃ l, Res B w v l ∧ Lim l ∧ Nrm l ∧ val l = n
end Go.Proofs.YtgciimjcdhallaaDoor.Li
set_option linter.unusedVariables false
set_option linter.unusedSimpArgs false
namespace Go.Proofs.YtgciimjcdhallaaDoor.Li
open Go.RowKit Lb
def cmpN (x y : Nat) : Int := if x < y then -1 else if y < x then 1 else 0
theorem cmpTop_eq (a b : List Nat) (ha : Lim a) (hb : Lim b) : ∀ k, k ≤ a.length → k ≤ b.length → cmpTop a b k = cmpN (val (a.take k)) (val (b.take k)) := by
  intro k
  induction k with
  | zero => intro _ _; simp [cmpTop, cmpN, val]
  | succ k ih =>
    intro h1 h2
    have e1 := val_take_succ a k
    have e2 := val_take_succ b k
    have l1 : val (a.take k) < 4294967296 ^ k := by
      have := val_lt (Lim_take ha k); rwa [show (a.take k).length = k by simp; omega] at this
    have l2 : val (b.take k) < 4294967296 ^ k := by
      have := val_lt (Lim_take hb k); rwa [show (b.take k).length = k by simp; omega] at this
    have ih' := ih (by omega) (by omega)
    rw [cmpTop]
    generalize 4294967296 ^ k = X at *
    rcases Nat.lt_trichotomy (a.getD k 0) (b.getD k 0) with h | h | h
    · have := Nat.mul_le_mul_right X (show a.getD k 0 + 1 ≤ b.getD k 0 from h)
      rw [Nat.add_mul] at this
      rw [if_pos h]; unfold cmpN; rw [if_pos (by omega)]
    · rw [if_neg (by omega), if_neg (by omega), ih', e1, e2, h]
      unfold cmpN
      simp only [Nat.add_lt_add_iff_right]
    · have := Nat.mul_le_mul_right X (show b.getD k 0 + 1 ≤ a.getD k 0 from h)
      rw [Nat.add_mul] at this
      rw [if_neg (by omega), if_pos h]; unfold cmpN; rw [if_neg (by omega), if_pos (by omega)]
theorem len_lt_val {a b : List Nat} (ha : Lim a) (nb : Nrm b) (h : a.length < b.length) : val a < val b := by
  have h1 := val_lt ha
  have h2 := val_ge nb (by intro h0; simp [h0] at h)
  have h3 : 4294967296 ^ a.length ≤ 4294967296 ^ (b.length - 1) := Nat.pow_le_pow_right (by omega) (by omega)
  omega
theorem cmpL_eq (a b : List Nat) (ha : Lim a) (hb : Lim b) (na : Nrm a) (nb : Nrm b) : cmpL a b = cmpN (val a) (val b) := by
  unfold cmpL
  split
  · rename_i h
    unfold cmpN; rw [if_pos (len_lt_val ha nb h)]
  · split
    · rename_i h
      have := len_lt_val hb na h
      unfold cmpN; rw [if_neg (by omega), if_pos this]
    · have hl : a.length = b.length := by omega
      rw [cmpTop_eq a b ha hb _ (Nat.le_refl _) (by omega), List.take_of_length_le (Nat.le_refl _), hl, List.take_of_length_le (Nat.le_refl _)]
theorem NatR.keep {B : Nat} {w w' : World} {v : Value} {n : Nat} (h : NatR B w v n) (k : Keep w w') : NatR B w' v n := by
  obtain ⟨l, h1, h2⟩ := h; exact ⟨l, h1.keep k, h2⟩
theorem NatR.mono {B B' : Nat} {w : World} {v : Value} {n : Nat} (h : NatR B w v n) (hB : B' ≤ B) : NatR B' w v n := by
  obtain ⟨l, h1, h2⟩ := h; exact ⟨l, h1.mono hB, h2⟩
end Go.Proofs.YtgciimjcdhallaaDoor.Li
set_option linter.unusedVariables false
set_option linter.unusedSimpArgs false
namespace Go.Proofs.YtgciimjcdhallaaDoor.Li
open Go.RowKit Lb
theorem NatR.shape {B : Nat} {w : World} {v : Value} {n : Nat} (h : NatR B w v n) : ∃ a c l, v = .slice a l.length c ∧ l.length ≤ c ∧ Rd w a l ∧ Lim l ∧ Nrm l ∧ val l = n ∧ Res B w v l := by
  obtain ⟨l, h1, h2, h3, h4⟩ := h
  obtain ⟨a, c, e, hc, hr⟩ := h1.shape
  exact ⟨a, c, l, e, hc, hr, h2, h3, h4, h1⟩
end Go.Proofs.YtgciimjcdhallaaDoor.Li
set_option linter.unusedVariables false
set_option linter.unusedSimpArgs false
namespace Go.Proofs.YtgciimjcdhallaaDoor.Li
open Go.RowKit Lb
/-- A quotient's variable. -/
def Box (w : World) (g : Nat) (x y z : Value) : Prop := w.heap[g]? = some (.cells #[x, y, z] 35 (0, 0))
theorem Box.keep {w w' : World} {g : Nat} {x y z : Value} (h : Box w g x y z) (k : Keep w w') : Box w' g x y z := by
  unfold Box; rw [k.block g (Array.getElem?_eq_some_iff.1 h).1]; exact h
theorem Box.cells {w : World} {g : Nat} {x y z : Value} (h : Box w g x y z) : w.cell? ⟨g, 0, none⟩ = some x ∧ w.cell? ⟨g, 1, none⟩ = some y ∧ w.cell? ⟨g, 2, none⟩ = some z := by
  refine ⟨?_, ?_, ?_⟩ <;> rw [cell_of_row w g _ _ 35 (0, 0) h] <;> rfl
end Go.Proofs.YtgciimjcdhallaaDoor.Li
set_option linter.unusedVariables false
set_option linter.unusedSimpArgs false
namespace Go.Proofs.YtgciimjcdhallaaDoor.Li
open Go.RowKit Lb
/-- Bytes as cells. -/
def V8 (l : List Nat) : List Value := l.map (fun x => Value.int .u8 (x : Nat))
def Row8 (w : World) (g : Nat) (l : List Nat) : Prop := w.heap[g]? = some (.cells (V8 l).toArray 5 (0, 0))
/-- Of what was there only block g has turned. -/
structure Gr (g : Nat) (w w' : World) : Prop where
  os : w'.os = w.os
  tape : w'.tape = w.tape
  output : w'.output = w.output
  size : w.heap.size ≤ w'.heap.size
  block : ∀ k, k < w.heap.size → k ≠ g → w'.heap[k]? = w.heap[k]?
theorem Gr.refl (g : Nat) (w : World) : Gr g w w := ⟨rfl, rfl, rfl, Nat.le_refl _, fun _ _ _ => rfl⟩
theorem Gr.trans {g : Nat} {a b c : World} (h : Gr g a b) (k : Gr g b c) : Gr g a c :=
  ⟨k.os.trans h.os, k.tape.trans h.tape, k.output.trans h.output, Nat.le_trans h.size k.size, fun i hi hg => (k.block i (Nat.lt_of_lt_of_le hi h.size) hg).trans (h.block i hi hg)⟩
theorem Keep.gr {w w' : World} (h : Keep w w') (g : Nat) : Gr g w w' := ⟨h.os, h.tape, h.output, h.size, fun k hk _ => h.block k hk⟩
theorem Mut.gr {w w' : World} {g : Nat} (h : Mut g w w') : Gr g w w' := ⟨h.os, h.tape, h.output, by rw [h.size]; exact Nat.le_refl _, fun k _ hg => h.block k hg⟩
theorem Gr.keep {g : Nat} {a b c : World} (h : Gr g a b) (k : Keep b c) : Gr g a c := h.trans (k.gr g)
theorem Row8.lt {w : World} {g : Nat} {l : List Nat} (h : Row8 w g l) : g < w.heap.size := (Array.getElem?_eq_some_iff.1 h).1
theorem Row8.keep {w w' : World} {g : Nat} {l : List Nat} (h : Row8 w g l) (k : Keep w w') : Row8 w' g l := by
  unfold Row8; rw [k.block g h.lt]; exact h
end Go.Proofs.YtgciimjcdhallaaDoor.Li
set_option linter.unusedVariables false
set_option linter.unusedSimpArgs false
namespace Go.Proofs.YtgciimjcdhallaaDoor.Li
open Go.RowKit Lb
theorem val_lt_len (l : List Nat) (hm : Lim l) : val l < 2 ^ lenB l := by
  rw [← val_take_nl l]
  unfold lenB
  by_cases h : nl l = 0
  · rw [if_pos h, h]; simp [val]
  · rw [if_neg h]
    obtain ⟨m, hm'⟩ : ∃ m, nl l = m + 1 := ⟨nl l - 1, by omega⟩
    rw [hm', Nat.add_sub_cancel, val_take_succ, Nat.pow_add, Nat.pow_mul]
    have h1 := (bitLen_spec (l.getD m 0)).1
    have h2 := val_lt (Lim_take hm m)
    have h3 : (l.take m).length ≤ m := by simp; omega
    have h4 : 4294967296 ^ (l.take m).length ≤ 4294967296 ^ m := Nat.pow_le_pow_right (by omega) h3
    have h5 := Nat.mul_le_mul_left (4294967296 ^ m) (show l.getD m 0 + 1 ≤ 2 ^ bitLen (l.getD m 0) from h1)
    rw [show (2 : Nat) ^ 32 = 4294967296 from rfl]
    rw [Nat.mul_add, Nat.mul_comm (4294967296 ^ m) (l.getD m 0)] at h5
    omega
theorem val_ge_len (l : List Nat) (h : nl l ≠ 0) : 2 ^ (lenB l - 1) ≤ val l := by
  rw [← val_take_nl l]
  unfold lenB
  rw [if_neg h]
  obtain ⟨m, hm'⟩ : ∃ m, nl l = m + 1 := ⟨nl l - 1, by omega⟩
  have ht := nl_top l (by omega)
  rw [hm', Nat.add_sub_cancel] at ht ⊢
  rw [val_take_succ]
  have h1 := (bitLen_spec (l.getD m 0)).2 ht
  have hb : 1 ≤ bitLen (l.getD m 0) := by
    unfold bitLen; rw [if_neg ht]; omega
  rw [show 32 * m + bitLen (l.getD m 0) - 1 = 32 * m + (bitLen (l.getD m 0) - 1) from by omega, Nat.pow_add, Nat.pow_mul, show (2 : Nat) ^ 32 = 4294967296 from rfl]
  have := Nat.mul_le_mul_left (4294967296 ^ m) h1
  rw [Nat.mul_comm (4294967296 ^ m) (l.getD m 0)] at this
  omega
end Go.Proofs.YtgciimjcdhallaaDoor.Li
set_option linter.unusedVariables false
set_option linter.unusedSimpArgs false
namespace Go.Proofs.YtgciimjcdhallaaDoor.Li
open Go.RowKit Lb
theorem getD_past (l : List Nat) (k : Nat) (h : ¬ k < l.length) : l.getD k 0 = 0 := by simp [List.getD, List.getElem?_eq_none (show l.length ≤ k by omega)]
end Go.Proofs.YtgciimjcdhallaaDoor.Li
set_option linter.unusedVariables false
set_option linter.unusedSimpArgs false
namespace Go.Proofs.YtgciimjcdhallaaDoor.Li
open Go.RowKit Lb
/-- A natural without needless limbs at the head of a block of the call's own, which is all limbs. -/
def NatS (B : Nat) (w : World) (v : Value) (n : Nat) : Prop := ∃ g r l, v = .slice (some ⟨g, 0, none⟩) l.length r.length ∧ B ≤ g ∧ Row w g r ∧ l.length ≤ r.length ∧ r.take l.length = l ∧ r.length ≤ 70368744177664 ∧ Lim r ∧ Lim l ∧ Nrm l ∧ val l = n
theorem NatS.mono {B B' : Nat} {w : World} {v : Value} {n : Nat} (h : NatS B w v n) (hB : B' ≤ B) : NatS B' w v n := by
  obtain ⟨g, r, l, h1, h2, h3⟩ := h
  exact ⟨g, r, l, h1, by omega, h3⟩
theorem NatS.keep {B : Nat} {w w' : World} {v : Value} {n : Nat} (h : NatS B w v n) (k : Keep w w') : NatS B w' v n := by
  obtain ⟨g, r, l, h1, h2, h3, h4⟩ := h
  exact ⟨g, r, l, h1, h2, h3.keep k, h4⟩
end Go.Proofs.YtgciimjcdhallaaDoor.Li
set_option linter.unusedVariables false
set_option linter.unusedSimpArgs false
namespace Go.Proofs.YtgciimjcdhallaaDoor.Li
open Go.RowKit Lb
theorem val_rep (n : Nat) : val (List.replicate n 0) = 0 := val_zeros _ (by intro j; simp [List.getD, List.getElem?_replicate]; split <;> rfl)
end Go.Proofs.YtgciimjcdhallaaDoor.Li
set_option linter.unusedVariables false
set_option linter.unusedSimpArgs false
namespace Go.Proofs.YtgciimjcdhallaaDoor.Li
open Go.RowKit Lb
/-- Three words in a block of their own. -/
def Tri (w : World) (g x y z : Nat) : Prop := w.heap[g]? = some (.cells #[.int .u64 (x : Nat), .int .u64 (y : Nat), .int .u64 (z : Nat)] 75 (0, 0))
/-- Steps of Euclid's in a block of their own. -/
def Stp (w : World) (g p q r s : Nat) (t : Bool) : Prop := w.heap[g]? = some (.cells #[.int .u64 (p : Nat), .int .u64 (q : Nat), .int .u64 (r : Nat), .int .u64 (s : Nat), .bool t] 65 (0, 0))
theorem Tri.keep {w w' : World} {g x y z : Nat} (h : Tri w g x y z) (k : Keep w w') : Tri w' g x y z := by
  unfold Tri; rw [k.block g (Array.getElem?_eq_some_iff.1 h).1]; exact h
theorem Tri.cells {w : World} {g x y z : Nat} (h : Tri w g x y z) : w.cell? ⟨g, 0, none⟩ = some (.int .u64 (x : Nat)) ∧ w.cell? ⟨g, 1, none⟩ = some (.int .u64 (y : Nat)) ∧ w.cell? ⟨g, 2, none⟩ = some (.int .u64 (z : Nat)) := by
  refine ⟨?_, ?_, ?_⟩ <;> rw [cell_of_row w g _ _ 75 (0, 0) h] <;> rfl
theorem Stp.keep {w w' : World} {g p q r s : Nat} {t : Bool} (h : Stp w g p q r s t) (k : Keep w w') : Stp w' g p q r s t := by
  unfold Stp; rw [k.block g (Array.getElem?_eq_some_iff.1 h).1]; exact h
theorem Stp.cells {w : World} {g p q r s : Nat} {t : Bool} (h : Stp w g p q r s t) : w.cell? ⟨g, 0, none⟩ = some (.int .u64 (p : Nat)) ∧ w.cell? ⟨g, 1, none⟩ = some (.int .u64 (q : Nat)) ∧ w.cell? ⟨g, 2, none⟩ = some (.int .u64 (r : Nat)) ∧ w.cell? ⟨g, 3, none⟩ = some (.int .u64 (s : Nat)) ∧ w.cell? ⟨g, 4, none⟩ = some (.bool t) := by
  refine ⟨?_, ?_, ?_, ?_, ?_⟩ <;> rw [cell_of_row w g _ _ 65 (0, 0) h] <;> rfl
end Go.Proofs.YtgciimjcdhallaaDoor.Li
