import Derived.Test.YtoejjapijbadoaaProg
import Derived.Test.YtoejjapijbadoaaLLC8
import Derived.WalkKit
import Derived.WalkSpells
import Derived.WalkLawsBesides
import Derived.Laws.CopyOwn
import Derived.Deep.Draws
import Derived.Deep.QuietTactic
import Derived.BigQuiet
import Derived.Laws.MathBits
import Derived.Shelf.Small.Bits
set_option linter.unusedVariables false
set_option linter.unusedSimpArgs false
namespace Go.Proofs.Ytoejjapijbadoaa
open Go.RowKit Lb
def cmpN (x y : Nat) : Int := if x < y then -1 else if y < x then 1 else 0
theorem cmpTop_eq (a b : List Nat) (ha : Lim a) (hb : Lim b) : ∀ k, k ≤ a.length → k ≤ b.length → cmpTop a b k = cmpN (val (a.take k)) (val (b.take k)) := by
  intro k
  induction k with
  | zero => intro _ _; simp [cmpTop, cmpN, val]
  | succ k ih =>
    intro h1 h2
    have e1 := val_take_succ a k
    have e2 := val_take_succ b k
    have l1 : val (a.take k) < 4294967296 ^ k := by
      have := val_lt (Lim_take ha k); rwa [show (a.take k).length = k by simp; omega] at this
    have l2 : val (b.take k) < 4294967296 ^ k := by
      have := val_lt (Lim_take hb k); rwa [show (b.take k).length = k by simp; omega] at this
    have ih' := ih (by omega) (by omega)
    rw [cmpTop]
    generalize 4294967296 ^ k = X at *
    rcases Nat.lt_trichotomy (a.getD k 0) (b.getD k 0) with h | h | h
    · have := Nat.mul_le_mul_right X (show a.getD k 0 + 1 ≤ b.getD k 0 from h)
      rw [Nat.add_mul] at this
      rw [if_pos h]; unfold cmpN; rw [if_pos (by omega)]
    · rw [if_neg (by omega), if_neg (by omega), ih', e1, e2, h]
      unfold cmpN
      simp only [Nat.add_lt_add_iff_right]
    · have := Nat.mul_le_mul_right X (show b.getD k 0 + 1 ≤ a.getD k 0 from h)
      rw [Nat.add_mul] at this
      rw [if_neg (by omega), if_pos h]; unfold cmpN; rw [if_neg (by omega), if_pos (by omega)]
theorem len_lt_val {a b : List Nat} (ha : Lim a) (nb : Nrm b) (h : a.length < b.length) : val a < val b := by
  have h1 := val_lt ha
  have h2 := val_ge nb (by intro h0; simp [h0] at h)
  have h3 : 4294967296 ^ a.length ≤ 4294967296 ^ (b.length - 1) := Nat.pow_le_pow_right (by omega) (by omega)
  omega
theorem cmpL_eq (a b : List Nat) (ha : Lim a) (hb : Lim b) (na : Nrm a) (nb : Nrm b) : cmpL a b = cmpN (val a) (val b) := by
  unfold cmpL
  split
  · rename_i h
    unfold cmpN; rw [if_pos (len_lt_val ha nb h)]
  · split
    · rename_i h
      have := len_lt_val hb na h
      unfold cmpN; rw [if_neg (by omega), if_pos this]
    · have hl : a.length = b.length := by omega
      rw [cmpTop_eq a b ha hb _ (Nat.le_refl _) (by omega), List.take_of_length_le (Nat.le_refl _), hl, List.take_of_length_le (Nat.le_refl _)]
theorem NatR.keep {B : Nat} {w w' : World} {v : Value} {n : Nat} (h : NatR B w v n) (k : Keep w w') : NatR B w' v n := by
  obtain ⟨l, h1, h2⟩ := h; exact ⟨l, h1.keep k, h2⟩
theorem NatR.mono {B B' : Nat} {w : World} {v : Value} {n : Nat} (h : NatR B w v n) (hB : B' ≤ B) : NatR B' w v n := by
  obtain ⟨l, h1, h2⟩ := h; exact ⟨l, h1.mono hB, h2⟩
theorem Row.rd0 {w : World} {g : Nat} {l : List Nat} (h : Row w g l) : Rd w (some ⟨g, 0, none⟩) l := by
  have := h.rd 0 l.length (by omega); simpa using this
end Go.Proofs.Ytoejjapijbadoaa
