import Derived.Test.YtpdjpjkieafnbaaGreatDoorO3
set_option linter.unusedVariables false
set_option linter.unusedSimpArgs false
namespace Go.Proofs.YtpdjpjkieafnbaaGreatDoor.Li
open Go.RowKit Lb
theorem two_word (k m : Nat) (h : k < 32 * m) : 2 ^ k < 4294967296 ^ m := by
  rw [word_pow]
  exact Nat.pow_lt_pow_right (by omega) h
theorem qN_lt (b : Nat) : qN b < 4294967296 ^ 40 := by
  unfold qN
  split
  · exact Nat.pow_pos (by omega)
  · have h := pM_lt b
    have e := pE_in b
    have q : qX b / Nat.gcd (qX b) (qY b) ≤ qX b := Nat.div_le_self _ _
    unfold qX at *
    have e2 : (pE b).toNat ≤ 971 := Int.toNat_le.2 e.2
    generalize (pE b).toNat = k at *
    have q2 : pM b * 2 ^ k < 2 ^ 53 * 2 ^ k := Nat.mul_lt_mul_of_pos_right h (Nat.two_pow_pos k)
    have q3 : (2 : Nat) ^ 53 * 2 ^ k < 4294967296 ^ 40 := by
      rw [← Nat.pow_add]
      exact two_word (53 + k) 40 (by omega)
    exact Nat.lt_of_le_of_lt q (Nat.lt_trans q2 q3)
theorem qD_lt (b : Nat) : qD b < 4294967296 ^ 40 := by
  unfold qD
  split
  · exact Nat.pow_pos (by omega)
  · have e := pE_in b
    have q : qY b / Nat.gcd (qX b) (qY b) ≤ qY b := Nat.div_le_self _ _
    have e3 : qY b = 2 ^ (-(pE b)).toNat := by unfold qY; rw [Nat.one_mul]
    have e2 : (-(pE b)).toNat ≤ 1074 := Int.toNat_le.2 (by have := e.1; clear e; omega)
    have q3 : 2 ^ (-(pE b)).toNat < 4294967296 ^ 40 := two_word _ 40 (by omega)
    rw [← e3] at q3
    exact Nat.lt_of_le_of_lt q q3
/-- A natural in a run of blocks: its limbs, read, and its row as one's own. -/
theorem NatQ.open {B C : Nat} {w : World} {v : Value} {n : Nat} (h : NatQ B C w v n) : ∃ a c l, v = .slice a l.length c ∧ Lim l ∧ Nrm l ∧ val l = n ∧ RdQ B C w a l ∧ AO B C w (.slice a l.length c) l.length ∧ l.length ≤ c := by
  obtain ⟨l, h1, h2, h3, h4⟩ := h
  rcases h1 with ⟨rfl, rfl⟩ | ⟨g, r, rfl, hb, hc, hr, q1, q2⟩
  · exact ⟨none, 0, [], rfl, h2, h3, h4, fun j hj => by simp at hj, .inl ⟨rfl, rfl⟩, by simp⟩
  · refine ⟨some ⟨g, 0, none⟩, r.length, l, rfl, h2, h3, h4, fun j hj => ⟨g, 0, rfl, hb, hc, ?_⟩, .inr ⟨g, r, rfl, hb, hc, hr, q1⟩, q1⟩
    rw [Nat.zero_add, hr.cell j (by omega)]
    rw [← q2]
    simp [List.getD, List.getElem?_take]
    rw [if_pos (by have := hj; rw [← q2] at this; simp at this; omega)]
theorem Own.rdq {B : Nat} {w : World} {v : Value} {l : List Nat} (h : Own B w v l) : ∃ a c, v = .slice a l.length c ∧ RdQ B w.heap.size w a l := rdB_own h
/-- The first quotient is written over and grown: nothing else turns. -/
structure OwJ (w1 w2 w7 wr : World) (M : Nat) (s : Bool) (vn vd : Value) (n d : Nat) : Prop where
  kp : Keep w1 wr
  eq : ∀ b, w2.heap.size < b → b < w7.heap.size → wr.heap[b]? = w7.heap[b]?
  sz : w7.heap.size ≤ wr.heap.size
  bx : Box wr w2.heap.size (.bool s) vn vd
  an : AO w1.heap.size M wr vn n
  ad : AO M w2.heap.size wr vd d
theorem set_other (w : World) (g j : Nat) (v : Value) (b : Nat) (h : b ≠ g) : (w.setCell ⟨g, j, none⟩ v).heap[b]? = w.heap[b]? := heap_setCell_other w ⟨g, j, none⟩ b v h
end Go.Proofs.YtpdjpjkieafnbaaGreatDoor.Li
