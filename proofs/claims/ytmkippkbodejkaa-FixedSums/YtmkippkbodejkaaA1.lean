import Derived.Test.YtmkippkbodejkaaProg
import Derived.WalkKit
import Derived.WalkSpells
import Derived.WalkLawsBesides
import Derived.Laws.CopyOwn
import Derived.Deep.Draws
import Derived.Deep.QuietTactic
import Derived.BigQuiet
import Derived.Laws.Externs
namespace Go.Proofs.Ytmkippkbodejkaa
open Go.RowKit
/-- An equation laid aside. -/
def Hid (p : Prop) : Prop := p
theorem Hid.out {p : Prop} (h : Hid p) : p := h
theorem add64 (x y c : Nat) (hc : c ≤ 1) (w : World) :
    (callFunc 11 #[.int .u64 (x : Nat), .int .u64 (y : Nat), .int .u64 (c : Nat)]).run Try.prog w =
      .ok (.value (.tuple #[.int .u64 (((x + y + c) % 18446744073709551616 : Nat) : Int), .int .u64 (((x + y + c) / 18446744073709551616 : Nat) : Int)])) w := by
  rw [run_callFunc_extern Try.func11 (by kernel_rfl) (by kernel_rfl) (by kernel_rfl) (e := add64Entry) (by kernel_rfl), run_add64 x y c (by omega) (by omega) (by omega) (by omega)]
  simp only [Result.andThen]
  congr 5 <;> omega
/-- A slice of numbers that can be read. -/
def Rd (w : World) (a : Option Addr) (l : List Int) : Prop :=
  ∀ j, j < l.length → ∃ b o, a = some ⟨b, o, none⟩ ∧ w.cell? ⟨b, o + j, none⟩ = some (.int .i64 (l.getD j 0))
/-- What was there is as it was. -/
def Keep (w w' : World) : Prop := Below w.heap.size w w'
theorem Keep.refl (w : World) : Keep w w := Below.refl _ _
theorem Keep.trans {a b c : World} (h : Keep a b) (k : Keep b c) : Keep a c := Below.trans h (Below.mono k h.size)
theorem Keep.drewN {a b : World} (h : Keep a b) (q : Nat) : Keep a (b.drewN q) := ⟨h.os, h.tape, h.output, h.size, h.block⟩
theorem Keep.alloc {a b : World} (h : Keep a b) (o : Obj) : Keep a (b.alloc o) := Below.alloc h h.size o
theorem Keep.setCell {a b : World} (h : Keep a b) {p : Addr} (hp : a.heap.size ≤ p.block) (u : Value) : Keep a (b.setCell p u) := Below.setCell h hp u
theorem Keep.cell {a b : World} (h : Keep a b) {p : Addr} {v : Value} (hc : a.cell? p = some v) : b.cell? p = some v :=
  (Below.cell h (World.block_lt_of_cell? a p hc)).trans hc
theorem Keep.le {a b : World} (h : Keep a b) : a.heap.size ≤ b.heap.size := h.size
theorem Rd.keep {w w' : World} {a : Option Addr} {l : List Int} (h : Rd w a l) (k : Keep w w') : Rd w' a l := by
  intro j hj
  obtain ⟨b, o, e, hc⟩ := h j hj
  exact ⟨b, o, e, k.cell hc⟩
theorem Rd.nil (w : World) (a : Option Addr) : Rd w a [] := by intro j hj; simp at hj
def I64 (l : List Int) : Prop := ∀ x ∈ l, -9223372036854775808 ≤ x ∧ x ≤ 9223372036854775807
theorem I64_getD {l : List Int} (h : I64 l) (j : Nat) : -9223372036854775808 ≤ l.getD j 0 ∧ l.getD j 0 ≤ 9223372036854775807 := by
  by_cases hj : j < l.length
  · exact h _ (by simp [List.getD, hj])
  · simp [List.getD, List.getElem?_eq_none (Nat.le_of_not_lt hj)]
theorem sum_take (l : List Int) (k : Nat) : (l.take (k + 1)).sum = (l.take k).sum + l.getD k 0 := by
  by_cases h : k < l.length
  · rw [List.take_succ_eq_append_getElem h, List.sum_append]
    have : l.getD k 0 = l[k] := by simp [List.getD, h]
    rw [this, List.sum_cons, List.sum_nil, Int.add_zero]
  · rw [List.take_of_length_le (by omega), List.take_of_length_le (by omega)]; simp [List.getD, List.getElem?_eq_none (Nat.le_of_not_lt h)]
theorem sum_bound {l : List Int} (h : I64 l) : ∀ k : Nat, -(9223372036854775808 * (k : Int)) ≤ (l.take k).sum ∧ (l.take k).sum ≤ 9223372036854775808 * (k : Int)
  | 0 => by simp
  | k + 1 => by
    have h1 := sum_bound h k
    have h2 := I64_getD h k
    rw [sum_take]
    omega
/-- The answer of a sum. -/
def sumV (T : Int) : Int := if -9223372036854775808 ≤ T ∧ T ≤ 9223372036854775807 then T else 0
def sumE (T : Int) : Int := if -9223372036854775808 ≤ T ∧ T ≤ 9223372036854775807 then 0 else 41
end Go.Proofs.Ytmkippkbodejkaa
