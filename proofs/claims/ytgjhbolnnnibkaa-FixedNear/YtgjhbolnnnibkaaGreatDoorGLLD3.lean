import Derived.Test.YtgjhbolnnnibkaaGreatDoorProg
import Derived.Test.YtgjhbolnnnibkaaGreatDoorLC6
import Derived.WalkKit
import Derived.WalkSpells
import Derived.WalkLawsBesides
import Derived.Laws.CopyOwn
import Derived.Deep.Draws
import Derived.Deep.QuietTactic
import Derived.BigQuiet
import Derived.Laws.MathBits
import Derived.Test.YtgjhbolnnnibkaaGreatDoorShelf
import Derived.Laws.BytesArg
import Derived.Lib.OthersKept
import Derived.Deep.RegionWith
namespace Dv
/-- The product of a guess and the divisor, by halves. -/
theorem qy (q y1 y0 : Nat) : q * (y1 * 4294967296 + y0) = q * y1 * 4294967296 + q * y0 := by
  rw [Nat.mul_add, Nat.mul_assoc]
theorem first {u32 u1 y1 y0 : Nat} (hy1 : 2147483648 ≤ y1) (hy0 : y0 < 4294967296) (hu : u32 < y1 * 4294967296 + y0) (hu1 : u1 < 4294967296) :
    u32 / y1 * y1 + u32 % y1 = u32 ∧ u32 / y1 ≤ 4294967297 ∧ u32 * 4294967296 + u1 < (u32 / y1 + 1) * (y1 * 4294967296 + y0) := by
  have h1 := Nat.div_add_mod' u32 y1
  have h2 := Nat.mod_lt u32 (show 0 < y1 by omega)
  refine ⟨h1, ?_, ?_⟩
  · have : u32 / y1 < 4294967298 := by
      rw [Nat.div_lt_iff_lt_mul (by omega)]
      omega
    omega
  · rw [Nat.add_mul, qy]
    generalize u32 / y1 * y1 = P at *
    omega
theorem more {q r u32 u1 y1 y0 : Nat} (h : q * y1 + r = u32) (hu : u32 < y1 * 4294967296 + y0) (hu1 : u1 < 4294967296)
    (ht : 4294967296 ≤ q ∨ 4294967296 * r + u1 < q * y0) : u32 * 4294967296 + u1 < q * (y1 * 4294967296 + y0) := by
  rcases ht with ht | ht
  · have : 4294967296 * (y1 * 4294967296 + y0) ≤ q * (y1 * 4294967296 + y0) := Nat.mul_le_mul_right _ ht
    omega
  · rw [qy]
    generalize q * y1 = P at *
    omega
theorem step {q r u32 u1 y1 y0 : Nat} (hq : q ≤ 4294967297) (h : q * y1 + r = u32) (hl : u32 * 4294967296 + u1 < q * (y1 * 4294967296 + y0)) :
    0 < q ∧ (q - 1) * y1 + (r + y1) = u32 ∧ q - 1 ≤ 4294967296 ∧ u32 * 4294967296 + u1 < (q - 1 + 1) * (y1 * 4294967296 + y0) := by
  have h0 : 0 < q := by
    rcases Nat.eq_zero_or_pos q with h0 | h0
    · rw [h0, Nat.zero_mul] at hl; omega
    · exact h0
  refine ⟨h0, ?_, by omega, by rw [Nat.sub_add_cancel h0]; exact hl⟩
  obtain ⟨p, rfl⟩ : ∃ p, q = p + 1 := ⟨q - 1, by omega⟩
  rw [Nat.add_mul, Nat.one_mul] at h
  rw [Nat.add_sub_cancel]
  omega
theorem out1 {q r u32 u1 y1 y0 : Nat} (h : q * y1 + r = u32) (ht : q * y0 ≤ 4294967296 * r + u1) : q * (y1 * 4294967296 + y0) ≤ u32 * 4294967296 + u1 := by
  rw [qy]
  generalize q * y1 = P at *
  omega
theorem out2 {q r u1 y0 : Nat} (hq : q ≤ 4294967296) (hy0 : y0 < 4294967296) (hr : 4294967296 ≤ r) : q * y0 ≤ 4294967296 * r + u1 := by
  have h1 : q * y0 ≤ 4294967296 * y0 := Nat.mul_le_mul_right _ hq
  omega
theorem quo {q u y : Nat} (h1 : q * y ≤ u) (h2 : u < (q + 1) * y) : q = u / y ∧ u - q * y = u % y := by
  have hy : 0 < y := by
    rcases Nat.eq_zero_or_pos y with h | h
    · rw [h] at h2; omega
    · exact h
  have e : u / y = q := by
    rw [Nat.div_eq_iff hy]
    rw [Nat.add_mul] at h2
    rw [Nat.mul_comm] at h1 ⊢
    rw [Nat.mul_comm q y] at h2
    omega
  refine ⟨e.symm, ?_⟩
  have := Nat.div_add_mod' u y
  rw [e] at this
  omega
/-- Two halves of a quotient. -/
theorem both {u u0 y q1 q0 : Nat} (hy : 0 < y) (h1 : q1 = u / y) (h0 : q0 = (u % y * 4294967296 + u0) / y) :
    (u * 4294967296 + u0) / y = q1 * 4294967296 + q0 ∧ (u * 4294967296 + u0) % y = (u % y * 4294967296 + u0) % y := by
  have e := Nat.div_add_mod' u y
  have e2 : u * 4294967296 + u0 = (u % y * 4294967296 + u0) + y * (q1 * 4294967296) := by
    rw [h1]
    generalize u % y = r at *
    have : u * 4294967296 = (u / y * y + r) * 4294967296 := by rw [e]
    rw [this]
    grind
  rw [e2]
  refine ⟨?_, ?_⟩
  · rw [Nat.add_mul_div_left _ _ hy, h0]
    omega
  · rw [Nat.add_mul_mod_self_left]
/-- Both moved up. -/
theorem moved {U y s : Nat} : (U * 2 ^ s) / (y * 2 ^ s) = U / y ∧ (U * 2 ^ s) % (y * 2 ^ s) / 2 ^ s = U % y := by
  have hp : 0 < 2 ^ s := Nat.two_pow_pos s
  refine ⟨Nat.mul_div_mul_right _ _ hp, ?_⟩
  rw [Nat.mul_mod_mul_right, Nat.mul_div_cancel _ hp]
theorem lowup {lo s : Nat} (hs : s < 64) : lo * 2 ^ s = lo / 2 ^ (64 - s) * 18446744073709551616 + lo * 2 ^ s % 18446744073709551616 := by
  have e : (18446744073709551616 : Nat) = 2 ^ (64 - s) * 2 ^ s := by rw [← Nat.pow_add, show 64 - s + s = 64 by omega]
  have h : lo * 2 ^ s / 18446744073709551616 = lo / 2 ^ (64 - s) := by
    rw [e, Nat.mul_div_mul_right _ _ (Nat.two_pow_pos s)]
  have := Nat.div_add_mod' (lo * 2 ^ s) 18446744073709551616
  rw [h] at this
  exact this.symm
end Dv
set_option linter.unusedVariables false
set_option linter.unusedSimpArgs false
namespace Go.Proofs.YtgjhbolnnnibkaaGreatDoor.Sc
open Go.RowKit Lb
/-- Limbs as cells. -/
def U (l : List Nat) : List Value := l.map (fun x => Value.int .u32 (x : Nat))
/-- A block that holds limbs. -/
def Row (w : World) (g : Nat) (l : List Nat) : Prop := w.heap[g]? = some (.cells (U l).toArray 43 (0, 0))
/-- Nothing that was there has turned. -/
def Keep (w w' : World) : Prop := Below w.heap.size w w'
/-- Only block g has turned. -/
structure Mut (g : Nat) (w w' : World) : Prop where
  os : w'.os = w.os
  tape : w'.tape = w.tape
  output : w'.output = w.output
  size : w'.heap.size = w.heap.size
  block : ∀ k, k ≠ g → w'.heap[k]? = w.heap[k]?
/-- What a slice at that address reads as. -/
def Rd (w : World) (a : Option Addr) (l : List Nat) : Prop :=
  ∀ j, j < l.length → ∃ b o, a = some ⟨b, o, none⟩ ∧ w.cell? ⟨b, o + j, none⟩ = some (.int .u32 (l.getD j 0 : Nat))
/-- A slice over a block of the call's own, from its head on. -/
def Res (B : Nat) (w : World) (v : Value) (l : List Nat) : Prop :=
  (v = .slice none 0 0 ∧ l = []) ∨ ∃ g r, v = .slice (some ⟨g, 0, none⟩) l.length r.length ∧ B ≤ g ∧ Row w g r ∧ l.length ≤ r.length ∧ r.take l.length = l
theorem Row.drewN {w : World} {g : Nat} {l : List Nat} (h : Row w g l) (q : Nat) : Row (w.drewN q) g l := h
theorem Keep.refl (w : World) : Keep w w := Below.refl _ _
theorem Keep.drewN {a b : World} (h : Keep a b) (q : Nat) : Keep a (b.drewN q) := ⟨h.os, h.tape, h.output, h.size, h.block⟩
theorem Mut.refl (g : Nat) (w : World) : Mut g w w := ⟨rfl, rfl, rfl, rfl, fun _ _ => rfl⟩
theorem Mut.drewN {g : Nat} {a b : World} (h : Mut g a b) (q : Nat) : Mut g a (b.drewN q) := ⟨h.os, h.tape, h.output, h.size, h.block⟩
theorem Rd.take {w : World} {a : Option Addr} {l : List Nat} (h : Rd w a l) (n : Nat) : Rd w a (l.take n) := by
  intro j hj
  have h1 : j < n ∧ j < l.length := by simp at hj; omega
  obtain ⟨b, o, e, hc⟩ := h j h1.2
  exact ⟨b, o, e, by rw [hc]; simp [List.getD, h1.1]⟩
theorem Res.mono {B B' : Nat} {w : World} {v : Value} {l : List Nat} (h : Res B w v l) (hB : B' ≤ B) : Res B' w v l := by
  rcases h with h | ⟨g, r, e, hb, hr, h1, h2⟩
  · exact .inl h
  · exact .inr ⟨g, r, e, by omega, hr, h1, h2⟩
end Go.Proofs.YtgjhbolnnnibkaaGreatDoor.Sc
set_option linter.unusedVariables false
set_option linter.unusedSimpArgs false
namespace Go.Proofs.YtgjhbolnnnibkaaGreatDoor.Sc
open Go.RowKit Lb
/-- Only the count of draws has moved on. -/
def Dr (w w' : World) : Prop := ∃ q, w' = w.drewN q
theorem Dr.refl (w : World) : Dr w w := ⟨0, rfl⟩
theorem Dr.drewN {w w' : World} (h : Dr w w') (q : Nat) : Dr w (w'.drewN q) := by obtain ⟨n, rfl⟩ := h; exact ⟨n + q, World.drewN_drewN _ _ _⟩
end Go.Proofs.YtgjhbolnnnibkaaGreatDoor.Sc
set_option linter.unusedVariables false
set_option linter.unusedSimpArgs false
namespace Go.Proofs.YtgjhbolnnnibkaaGreatDoor.Sc
open Go.RowKit Lb
/-- A slice that owns its limbs (made by append). -/
def Own (B : Nat) (w : World) (v : Value) (l : List Nat) : Prop := w.ownsRow B 43 1 v l.length (U l)
theorem Own.mono {B B' : Nat} {w : World} {v : Value} {l : List Nat} (h : Own B w v l) (hB : B' ≤ B) : Own B' w v l := by
  refine ⟨h.1, ?_⟩
  rcases h.2 with h2 | ⟨g, cap, cur, hv, hg, r⟩
  · exact .inl h2
  · exact .inr ⟨g, cap, cur, hv, by omega, r⟩
end Go.Proofs.YtgjhbolnnnibkaaGreatDoor.Sc
set_option linter.unusedVariables false
set_option linter.unusedSimpArgs false
namespace Go.Proofs.YtgjhbolnnnibkaaGreatDoor.Sc
open Go.RowKit Lb
theorem bitLen_half (x : Nat) (h : 0 < x) : bitLen x = bitLen (x / 2) + 1 := by
  by_cases h1 : x / 2 = 0
  · have : x = 1 := by omega
    subst this; decide
  · have := bitLen_shift x 1 (by simpa using h1)
    simp at this; omega
end Go.Proofs.YtgjhbolnnnibkaaGreatDoor.Sc
set_option linter.unusedVariables false
set_option linter.unusedSimpArgs false
namespace Go.Proofs.YtgjhbolnnnibkaaGreatDoor.Sc
open Go.RowKit Lb
theorem bitLen_aux : ∀ (f x : Nat), x < 2 ^ f → Lib.bitLenAux f x = bitLen x
  | 0, x, h => by simp at h; subst h; rfl
  | f + 1, x, h => by
    unfold Lib.bitLenAux
    by_cases h0 : x = 0
    · subst h0; rfl
    · rw [if_neg h0, bitLen_aux f (x / 2) (by rw [Nat.pow_succ] at h; omega), bitLen_half x (by omega)]; omega
theorem bitLen_lib (x : Nat) (h : x < 18446744073709551616) : Lib.bitLen x = bitLen x := bitLen_aux 64 x h
end Go.Proofs.YtgjhbolnnnibkaaGreatDoor.Sc
set_option linter.unusedVariables false
set_option linter.unusedSimpArgs false
namespace Go.Proofs.YtgjhbolnnnibkaaGreatDoor.Sc
open Go.RowKit Lb
/-- A natural without needless limbs, in memory of the call's own. -/
def NatR (B : Nat) (w : World) (v : Value) (n : Nat) : Prop := ∃ l, Res B w v l ∧ Lim l ∧ Nrm l ∧ val l = n
end Go.Proofs.YtgjhbolnnnibkaaGreatDoor.Sc
set_option linter.unusedVariables false
set_option linter.unusedSimpArgs false
namespace Go.Proofs.YtgjhbolnnnibkaaGreatDoor.Sc
open Go.RowKit Lb
theorem NatR.mono {B B' : Nat} {w : World} {v : Value} {n : Nat} (h : NatR B w v n) (hB : B' ≤ B) : NatR B' w v n := by
  obtain ⟨l, h1, h2⟩ := h; exact ⟨l, h1.mono hB, h2⟩
end Go.Proofs.YtgjhbolnnnibkaaGreatDoor.Sc
set_option linter.unusedVariables false
set_option linter.unusedSimpArgs false
namespace Go.Proofs.YtgjhbolnnnibkaaGreatDoor.Sc
open Go.RowKit Lb
/-- Of what was there only block g has turned. -/
structure Gr (g : Nat) (w w' : World) : Prop where
  os : w'.os = w.os
  tape : w'.tape = w.tape
  output : w'.output = w.output
  size : w.heap.size ≤ w'.heap.size
  block : ∀ k, k < w.heap.size → k ≠ g → w'.heap[k]? = w.heap[k]?
theorem Gr.refl (g : Nat) (w : World) : Gr g w w := ⟨rfl, rfl, rfl, Nat.le_refl _, fun _ _ _ => rfl⟩
end Go.Proofs.YtgjhbolnnnibkaaGreatDoor.Sc
set_option linter.unusedVariables false
set_option linter.unusedSimpArgs false
namespace Go.Proofs.YtgjhbolnnnibkaaGreatDoor.Sc
open Go.RowKit Lb
/-- A natural without needless limbs at the head of a block of the call's own, which is all limbs. -/
def NatS (B : Nat) (w : World) (v : Value) (n : Nat) : Prop := ∃ g r l, v = .slice (some ⟨g, 0, none⟩) l.length r.length ∧ B ≤ g ∧ Row w g r ∧ l.length ≤ r.length ∧ r.take l.length = l ∧ r.length ≤ 70368744177664 ∧ Lim r ∧ Lim l ∧ Nrm l ∧ val l = n
theorem NatS.mono {B B' : Nat} {w : World} {v : Value} {n : Nat} (h : NatS B w v n) (hB : B' ≤ B) : NatS B' w v n := by
  obtain ⟨g, r, l, h1, h2, h3⟩ := h
  exact ⟨g, r, l, h1, by omega, h3⟩
end Go.Proofs.YtgjhbolnnnibkaaGreatDoor.Sc
