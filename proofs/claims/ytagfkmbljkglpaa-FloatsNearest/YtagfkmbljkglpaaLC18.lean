import Derived.Test.YtagfkmbljkglpaaProg
import Derived.Test.YtagfkmbljkglpaaLC15
import Derived.WalkKit
import Derived.WalkSpells
import Derived.WalkLawsBesides
import Derived.Laws.CopyOwn
import Derived.Deep.Draws
import Derived.Deep.QuietTactic
import Derived.BigQuiet
import Derived.Laws.MathBits
import Derived.Shelf.Small.Bits
import Derived.Shelf.Strconv.Itoa0
import Derived.Shelf.Bits.Mul64
import Derived.Laws.BytesArg
import Derived.Lib.OthersKept
set_option linter.unusedVariables false
set_option linter.unusedSimpArgs false
namespace Go.Proofs.Ytagfkmbljkglpaa
open Go.RowKit Lb
theorem val_lt_len (l : List Nat) (hm : Lim l) : val l < 2 ^ lenB l := by
  rw [← val_take_nl l]
  unfold lenB
  by_cases h : nl l = 0
  · rw [if_pos h, h]; simp [val]
  · rw [if_neg h]
    obtain ⟨m, hm'⟩ : ∃ m, nl l = m + 1 := ⟨nl l - 1, by omega⟩
    rw [hm', Nat.add_sub_cancel, val_take_succ, Nat.pow_add, Nat.pow_mul]
    have h1 := (bitLen_spec (l.getD m 0)).1
    have h2 := val_lt (Lim_take hm m)
    have h3 : (l.take m).length ≤ m := by simp; omega
    have h4 : 4294967296 ^ (l.take m).length ≤ 4294967296 ^ m := Nat.pow_le_pow_right (by omega) h3
    have h5 := Nat.mul_le_mul_left (4294967296 ^ m) (show l.getD m 0 + 1 ≤ 2 ^ bitLen (l.getD m 0) from h1)
    rw [show (2 : Nat) ^ 32 = 4294967296 from rfl]
    rw [Nat.mul_add, Nat.mul_comm (4294967296 ^ m) (l.getD m 0)] at h5
    omega
theorem NatR.res {B : Nat} {w : World} {v : Value} {n : Nat} (h : NatR B w v n) {l : List Nat} (hl : Lim l) (hn : Nrm l) (hv : val l = n) : Res B w v l := by
  obtain ⟨r, h1, h2, h3, h4⟩ := h
  have : r = l := val_inj h2 hl h3 hn (by omega)
  rw [← this]; exact h1
theorem Box.set {w : World} {g : Nat} {x y z : Value} (h : Box w g x y z) (x' y' z' : Value) : Box (((w.setCell ⟨g, 0, none⟩ x').setCell ⟨g, 1, none⟩ y').setCell ⟨g, 2, none⟩ z') g x' y' z' := by
  have h0 := heap_setCell_same w g 0 _ 28 x' h
  have h1 := heap_setCell_same _ g 1 _ 28 y' h0
  have h2 := heap_setCell_same _ g 2 _ 28 z' h1
  unfold Box
  rw [h2]
  simp
theorem val_ge_len (l : List Nat) (h : nl l ≠ 0) : 2 ^ (lenB l - 1) ≤ val l := by
  rw [← val_take_nl l]
  unfold lenB
  rw [if_neg h]
  obtain ⟨m, hm'⟩ : ∃ m, nl l = m + 1 := ⟨nl l - 1, by omega⟩
  have ht := nl_top l (by omega)
  rw [hm', Nat.add_sub_cancel] at ht ⊢
  rw [val_take_succ]
  have h1 := (bitLen_spec (l.getD m 0)).2 ht
  have hb : 1 ≤ bitLen (l.getD m 0) := by
    unfold bitLen; rw [if_neg ht]; omega
  rw [show 32 * m + bitLen (l.getD m 0) - 1 = 32 * m + (bitLen (l.getD m 0) - 1) from by omega, Nat.pow_add, Nat.pow_mul, show (2 : Nat) ^ 32 = 4294967296 from rfl]
  have := Nat.mul_le_mul_left (4294967296 ^ m) h1
  rw [Nat.mul_comm (4294967296 ^ m) (l.getD m 0)] at this
  omega
theorem len_le_of_val {l m : List Nat} (nl : Nrm l) (hm : Lim m) (h : val l ≤ val m) : l.length ≤ m.length := by
  rcases Nat.lt_or_ge m.length l.length with h1 | h1
  · have := len_lt_val hm nl h1; omega
  · exact h1
end Go.Proofs.Ytagfkmbljkglpaa
