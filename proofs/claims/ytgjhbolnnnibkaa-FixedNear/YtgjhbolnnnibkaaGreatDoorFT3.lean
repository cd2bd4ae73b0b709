import Derived.Test.YtgjhbolnnnibkaaGreatDoorProg
import Derived.WalkKit
import Derived.WalkSpells
import Derived.WalkLawsBesides
import Derived.Deep.Draws
import Derived.Deep.QuietTactic
import Derived.Laws.Externs
import Derived.Shelf.Abstract
import Derived.Below
import Derived.Deep.RegionLaw
import Derived.Laws.CopyOwn
import Derived.BigRegion
import Derived.BigQuiet
import Derived.Deep.RegionHeld3
import Derived.Lib.Bytealg
set_option linter.unusedVariables false
set_option linter.unusedSimpArgs false
namespace Go.Proofs.YtgjhbolnnnibkaaGreatDoor
theorem dw_nil {α : Type} (p : α → Bool) : ∀ l : List α, l.dropWhile p = [] ↔ ∀ b ∈ l, p b = true
  | [] => by simp
  | x :: l => by
    by_cases h : p x = true
    · rw [List.dropWhile_cons_of_pos h, dw_nil p l]
      simp [h]
    · rw [List.dropWhile_cons_of_neg h]
      simp [h]
theorem dw_head {α : Type} (p : α → Bool) : ∀ (l : List α) (b : α) (r : List α), l.dropWhile p = b :: r → p b = false
  | [], b, r, h => by simp at h
  | x :: l, b, r, h => by
    by_cases q : p x = true
    · rw [List.dropWhile_cons_of_pos q] at h
      exact dw_head p l b r h
    · rw [List.dropWhile_cons_of_neg q] at h
      injection h with h1 h2
      rw [← h1]
      simpa using q
theorem tw_all {α : Type} (p : α → Bool) : ∀ (l : List α), ∀ b ∈ l.takeWhile p, p b = true
  | [], b, h => by simp at h
  | x :: l, b, h => by
    by_cases q : p x = true
    · rw [List.takeWhile_cons_of_pos q] at h
      rcases List.mem_cons.1 h with e | e
      · rw [e]; exact q
      · exact tw_all p l b e
    · rw [List.takeWhile_cons_of_neg q] at h
      cases h
/-- Decimal digits as mathematics: no program. -/
def isD (b : UInt8) : Bool := decide (48 ≤ b.toNat ∧ b.toNat ≤ 57)
def dv (b : UInt8) : Nat := b.toNat - 48
def nat (l : List UInt8) : Nat := l.foldl (fun n b => 10 * n + dv b) 0
def allD (l : List UInt8) : Prop := ∀ b ∈ l, isD b = true
theorem dv_lt {b : UInt8} (h : isD b = true) : dv b ≤ 9 := by
  unfold isD at h
  unfold dv
  have := of_decide_eq_true h
  omega
theorem fold_nat (l : List UInt8) (n : Nat) : l.foldl (fun n b => 10 * n + dv b) n = n * 10 ^ l.length + nat l := by
  induction l generalizing n with
  | nil => simp [nat]
  | cons b l ih =>
    unfold nat
    rw [List.foldl_cons, List.foldl_cons, ih, ih (10 * 0 + dv b), List.length_cons, Nat.pow_succ]
    have e1 : (10 * n + dv b) * 10 ^ l.length = n * (10 ^ l.length * 10) + dv b * 10 ^ l.length := by
      rw [Nat.add_mul, Nat.mul_comm 10 n, Nat.mul_assoc, Nat.mul_comm 10 (10 ^ l.length)]
    rw [e1]
    simp
    omega
theorem nat_cons (b : UInt8) (l : List UInt8) : nat (b :: l) = dv b * 10 ^ l.length + nat l := by
  have := fold_nat l (dv b)
  unfold nat at this ⊢
  rw [List.foldl_cons]
  simpa using this
theorem nat_append (a b : List UInt8) : nat (a ++ b) = nat a * 10 ^ b.length + nat b := by
  have := fold_nat b (nat a)
  unfold nat at this ⊢
  rw [List.foldl_append]
  exact this
theorem nat_lt {l : List UInt8} (h : allD l) : nat l < 10 ^ l.length := by
  induction l with
  | nil => simp [nat]
  | cons b l ih =>
    rw [nat_cons, List.length_cons, Nat.pow_succ]
    have h1 := ih (fun x hx => h x (List.mem_cons_of_mem _ hx))
    have h2 := dv_lt (h b List.mem_cons_self)
    have h3 : dv b * 10 ^ l.length ≤ 9 * 10 ^ l.length := Nat.mul_le_mul_right _ h2
    omega
theorem nat_zeros (k : Nat) : nat (List.replicate k 48) = 0 := by
  induction k with
  | zero => rfl
  | succ k ih => rw [List.replicate_succ, nat_cons, ih]; simp [dv]
theorem allD.app {a b : List UInt8} (ha : allD a) (hb : allD b) : allD (a ++ b) := by
  intro x hx
  rcases List.mem_append.1 hx with q | q
  · exact ha x q
  · exact hb x q
theorem allD.take {a : List UInt8} (ha : allD a) (k : Nat) : allD (a.take k) := fun x hx => ha x (List.mem_of_mem_take hx)
theorem allD.drop {a : List UInt8} (ha : allD a) (k : Nat) : allD (a.drop k) := fun x hx => ha x (List.mem_of_mem_drop hx)
theorem allD.zeros (k : Nat) : allD (List.replicate k 48) := by
  intro x hx
  rw [(List.mem_replicate.1 hx).2]
  decide
theorem allD.while (l : List UInt8) : allD (l.takeWhile isD) := tw_all isD l
/-- Noughts at the front go. -/
def tl0 (l : List UInt8) : List UInt8 := l.dropWhile fun b => b == 48
theorem tl0_nat (l : List UInt8) : nat (tl0 l) = nat l := by
  unfold tl0
  induction l with
  | nil => rfl
  | cons b l ih =>
    by_cases h : b = 48
    · subst h
      rw [List.dropWhile_cons_of_pos (by simp), ih, nat_cons]
      simp [dv]
    · rw [List.dropWhile_cons_of_neg (by simpa using h)]
theorem tl0_allD {l : List UInt8} (h : allD l) : allD (tl0 l) := fun x hx => h x ((List.dropWhile_suffix _).subset hx)
theorem tl0_len (l : List UInt8) : (tl0 l).length ≤ l.length := (List.dropWhile_suffix _).length_le
/-- What is left begins with another digit: so it says much. -/
theorem tl0_ge {l : List UInt8} (h : allD l) (hne : tl0 l ≠ []) : 10 ^ ((tl0 l).length - 1) ≤ nat l := by
  rw [← tl0_nat]
  have hd := tl0_allD h
  match hl : tl0 l, hne with
  | b :: r, _ =>
    rw [hl] at hd
    have hb : b ≠ 48 := by
      intro e
      have : (b == 48) = false := dw_head (fun b : UInt8 => b == 48) l b r hl
      rw [e] at this
      simp at this
    have h1 : 1 ≤ dv b := by
      have := hd b List.mem_cons_self
      unfold isD at this
      have h2 := of_decide_eq_true this
      have h3 : b.toNat ≠ 48 := by
        intro e
        apply hb
        have : (48 : UInt8).toNat = 48 := rfl
        exact UInt8.toNat_inj.1 (by rw [e, this])
      unfold dv
      omega
    rw [nat_cons, List.length_cons]
    have h4 : 1 * 10 ^ r.length ≤ dv b * 10 ^ r.length := Nat.mul_le_mul_right _ h1
    have h5 : r.length + 1 - 1 = r.length := by omega
    rw [h5]
    omega
theorem tl0_nil {l : List UInt8} (h : allD l) : tl0 l = [] ↔ nat l = 0 := by
  constructor
  · intro e; rw [← tl0_nat, e]; rfl
  · intro e
    refine Classical.byContradiction fun hne => ?_
    have h1 := tl0_ge h hne
    have h2 : 0 < 10 ^ ((tl0 l).length - 1) := Nat.pow_pos (by omega)
    omega
/-- Noughts at the end go. -/
def tr0 (l : List UInt8) : List UInt8 := (l.reverse.dropWhile fun b => b == 48).reverse
theorem tr0_nil (l : List UInt8) : tr0 l = [] ↔ ∀ b ∈ l, b = 48 := by
  unfold tr0
  rw [List.reverse_eq_nil_iff, dw_nil]
  simp
theorem tr0_cons (b : UInt8) (l : List UInt8) (h : tr0 (b :: l) ≠ []) : tr0 (b :: l) = b :: tr0 l := by
  unfold tr0 at h ⊢
  rw [List.reverse_cons, List.dropWhile_append] at h ⊢
  by_cases q : (l.reverse.dropWhile fun b => b == 48).isEmpty = true
  · rw [if_pos q] at h ⊢
    have q2 : l.reverse.dropWhile (fun b => b == 48) = [] := by simpa using q
    rw [q2]
    by_cases e : b = 48
    · subst e; simp at h
    · rw [List.dropWhile_cons_of_neg (by simpa using e)]
      rfl
  · rw [if_neg q, List.reverse_append]
    rfl
/-- What digits behind a point say of a half: more, just it, less. -/
theorem half_of {b : UInt8} {t : List UInt8} (h : allD (b :: t)) :
    (5 * 10 ^ t.length < nat (b :: t) ↔ (53 < b.toNat ∨ b.toNat = 53 ∧ tr0 t ≠ [])) ∧ (nat (b :: t) = 5 * 10 ^ t.length ↔ b.toNat = 53 ∧ tr0 t = []) := by
  have ht : allD t := fun x hx => h x (List.mem_cons_of_mem _ hx)
  have hb := h b List.mem_cons_self
  unfold isD at hb
  have hb2 := of_decide_eq_true hb
  have hlt := nat_lt ht
  rw [nat_cons]
  have hz : tr0 t = [] ↔ nat t = 0 := by
    rw [tr0_nil, ← tl0_nil ht]
    unfold tl0
    rw [dw_nil]
    simp
  have hdv : dv b = b.toNat - 48 := rfl
  rcases Nat.lt_trichotomy b.toNat 53 with q | q | q
  · have h1 : dv b ≤ 4 := by omega
    have h2 : dv b * 10 ^ t.length ≤ 4 * 10 ^ t.length := Nat.mul_le_mul_right _ h1
    refine ⟨⟨fun _ => by omega, ?_⟩, ⟨fun _ => by omega, ?_⟩⟩
    · rintro (a | ⟨a, -⟩) <;> omega
    · rintro ⟨a, -⟩; omega
  · have h1 : dv b = 5 := by omega
    rw [h1]
    refine ⟨⟨fun a => .inr ⟨q, fun e => by have := hz.1 e; omega⟩, ?_⟩, ⟨fun a => ⟨q, hz.2 (by omega)⟩, ?_⟩⟩
    · rintro (a | ⟨-, a⟩)
      · omega
      · have : nat t ≠ 0 := fun e => a (hz.2 e)
        omega
    · rintro ⟨-, a⟩
      have := hz.1 a
      omega
  · have h1 : 6 ≤ dv b := by omega
    have h2 : 6 * 10 ^ t.length ≤ dv b * 10 ^ t.length := Nat.mul_le_mul_right _ h1
    have h3 : 0 < 10 ^ t.length := Nat.pow_pos (by omega)
    refine ⟨⟨fun _ => .inl q, fun _ => by omega⟩, ⟨fun _ => by omega, ?_⟩⟩
    rintro ⟨a, -⟩; omega
/-- Rounded to the nearest, ties to even. -/
def rup (x y : Nat) : Nat := if y < 2 * (x % y) ∨ 2 * (x % y) = y ∧ x / y % 2 = 1 then x / y + 1 else x / y
def gt5 : List UInt8 → Bool
  | [] => false
  | b :: t => decide (53 < b.toNat) || (decide (b.toNat = 53) && !t.isEmpty)
def eq5 (r : List UInt8) : Bool := decide (r = [53])
/-- How digits and the digits behind them are rounded. -/
def rq (n : Nat) (r : List UInt8) : Nat := if gt5 r = true ∨ eq5 r = true ∧ n % 2 = 1 then n + 1 else n
theorem rq_nil (n : Nat) : rq n [] = n := by unfold rq; simp [gt5, eq5]
theorem rq_rest {A B : List UInt8} (hB : allD B) (hne : B ≠ []) : rq (nat A) (tr0 B) = rup (nat (A ++ B)) (10 ^ B.length) := by
  match B, hne with
  | b :: t, _ =>
    obtain ⟨h1, h2⟩ := half_of hB
    have hlt := nat_lt hB
    have e : (10 : Nat) ^ (b :: t).length = 10 * 10 ^ t.length := by rw [List.length_cons, Nat.pow_succ, Nat.mul_comm]
    have hdiv : nat (A ++ b :: t) / 10 ^ (b :: t).length = nat A := by
      rw [nat_append, Nat.add_comm, Nat.add_mul_div_right _ _ (Nat.pow_pos (by omega)), Nat.div_eq_of_lt hlt]
      omega
    have hmod : nat (A ++ b :: t) % 10 ^ (b :: t).length = nat (b :: t) := by
      rw [nat_append, Nat.add_comm, Nat.add_mul_mod_self_right, Nat.mod_eq_of_lt hlt]
    unfold rup
    rw [hdiv, hmod]
    have hg : gt5 (tr0 (b :: t)) = true ↔ 10 ^ (b :: t).length < 2 * nat (b :: t) := by
      rw [e]
      have : 10 * 10 ^ t.length < 2 * nat (b :: t) ↔ 5 * 10 ^ t.length < nat (b :: t) := by omega
      rw [this, h1]
      by_cases q : tr0 (b :: t) = []
      · rw [q]
        have q2 := (tr0_nil _).1 q
        have q3 := q2 b List.mem_cons_self
        have q4 : tr0 t = [] := (tr0_nil t).2 fun x hx => q2 x (List.mem_cons_of_mem _ hx)
        rw [q3, q4]
        simp [gt5]
      · rw [tr0_cons b t q]
        simp [gt5]
    have he : eq5 (tr0 (b :: t)) = true ↔ 2 * nat (b :: t) = 10 ^ (b :: t).length := by
      rw [e]
      have : 2 * nat (b :: t) = 10 * 10 ^ t.length ↔ nat (b :: t) = 5 * 10 ^ t.length := by omega
      rw [this, h2]
      unfold eq5
      by_cases q : tr0 (b :: t) = []
      · rw [q]
        have q2 := (tr0_nil _).1 q
        have q3 := q2 b List.mem_cons_self
        rw [q3]
        simp
      · rw [tr0_cons b t q]
        simp
        intro _
        constructor
        · intro h3
          have : b.toNat = (53 : UInt8).toNat := by rw [h3]
          exact this
        · intro h3
          exact UInt8.toNat_inj.1 h3
    unfold rq
    simp only [hg, he]
/-- What the digits of a decimal say, the point moved by p to the right. -/
def mv (N : Nat) (p : Int) : Nat := if 0 ≤ p then N * 10 ^ p.toNat else rup N (10 ^ (-p).toNat)
theorem mv_far {ds : List UInt8} {p : Int} (hd : allD ds) (h : (ds.length : Int) + p < 0) : mv (nat ds) p = 0 := by
  unfold mv
  rw [if_neg (by omega)]
  obtain ⟨k, hk⟩ : ∃ k, (-p).toNat = k + 1 := ⟨(-p).toNat - 1, by omega⟩
  rw [hk]
  have h1 := nat_lt hd
  have h2 : (10 : Nat) ^ ds.length ≤ 10 ^ k := Nat.pow_le_pow_right (by omega) (by omega)
  have h3 : (10 : Nat) ^ (k + 1) = 10 * 10 ^ k := by rw [Nat.pow_succ, Nat.mul_comm]
  unfold rup
  rw [h3, Nat.div_eq_of_lt (by omega), Nat.mod_eq_of_lt (by omega), if_neg (by omega)]
theorem mv_in {ds : List UInt8} {p : Int} {T : Nat} (hd : allD ds) (hT : (ds.length : Int) + p = (T : Int)) : rq (nat ((ds ++ List.replicate (T - ds.length) 48).take T)) (tr0 ((ds ++ List.replicate (T - ds.length) 48).drop T)) = mv (nat ds) p := by
  unfold mv
  by_cases hp : 0 ≤ p
  · rw [if_pos hp]
    have hl : (ds ++ List.replicate (T - ds.length) 48).length = T := by simp; omega
    rw [List.take_of_length_le (by omega), List.drop_of_length_le (by omega)]
    have : tr0 [] = [] := rfl
    rw [this, rq_nil, nat_append, nat_zeros, List.length_replicate]
    have : T - ds.length = p.toNat := by omega
    rw [this]
    omega
  · rw [if_neg hp]
    have : T - ds.length = 0 := by omega
    rw [this, List.replicate_zero, List.append_nil]
    have hl : (ds.drop T).length = (-p).toNat := by rw [List.length_drop]; omega
    have hne : ds.drop T ≠ [] := by
      intro e
      rw [e] at hl
      simp at hl
      omega
    have h1 := rq_rest (A := ds.take T) (hd.drop T) hne
    rw [List.take_append_drop, hl] at h1
    exact h1
theorem mv_great {l : List UInt8} {p : Int} (h : allD l) (hne : tl0 l ≠ []) (hT : 19 < ((tl0 l).length : Int) + p) : 10000000000000000000 ≤ mv (nat l) p := by
  have h1 := tl0_ge h hne
  have hL : 1 ≤ (tl0 l).length := List.length_pos_iff.2 hne
  have e19 : (10 : Nat) ^ 19 = 10000000000000000000 := by decide
  rw [← e19]
  unfold mv
  by_cases hp : 0 ≤ p
  · rw [if_pos hp]
    have h2 : (10 : Nat) ^ ((tl0 l).length - 1) * 10 ^ p.toNat ≤ nat l * 10 ^ p.toNat := Nat.mul_le_mul_right _ h1
    rw [← Nat.pow_add] at h2
    have h3 : (10 : Nat) ^ 19 ≤ 10 ^ ((tl0 l).length - 1 + p.toNat) := Nat.pow_le_pow_right (by omega) (by omega)
    omega
  · rw [if_neg hp]
    have h2 : (10 : Nat) ^ 19 * 10 ^ (-p).toNat ≤ nat l := by
      rw [← Nat.pow_add]
      exact Nat.le_trans (Nat.pow_le_pow_right (by omega) (by omega)) h1
    have h3 : 10 ^ 19 ≤ nat l / 10 ^ (-p).toNat := (Nat.le_div_iff_mul_le (Nat.pow_pos (by omega))).2 h2
    have h4 : nat l / 10 ^ (-p).toNat ≤ rup (nat l) (10 ^ (-p).toNat) := by
      unfold rup
      split <;> omega
    omega
end Go.Proofs.YtgjhbolnnnibkaaGreatDoor
set_option linter.unusedVariables false
set_option linter.unusedSimpArgs false
namespace Go.Proofs.YtgjhbolnnnibkaaGreatDoor
open Go.RowKit Go.Shelf
/-- Kept from simp. -/
def Hid (p : Prop) : Prop := p
theorem Hid.out {p : Prop} (h : Hid p) : p := h
/-- Nothing that was there has turned. -/
def Keep (w w' : World) : Prop := Below w.heap.size w w'
theorem Keep.refl (w : World) : Keep w w := Below.refl _ _
theorem Keep.trans {a b c : World} (h : Keep a b) (k : Keep b c) : Keep a c := Below.trans h (Below.mono k h.size)
theorem Keep.drewN {a b : World} (h : Keep a b) (q : Nat) : Keep a (b.drewN q) := ⟨h.os, h.tape, h.output, h.size, h.block⟩
theorem Keep.drew {a b : World} (h : Keep a b) : Keep a b.drew := Below.drew h
theorem Keep.alloc {a b : World} (h : Keep a b) (o : Obj) : Keep a (b.alloc o) := Below.alloc h h.size o
theorem Keep.setCell {a b : World} (h : Keep a b) {p : Addr} (hp : a.heap.size ≤ p.block) (u : Value) : Keep a (b.setCell p u) := Below.setCell h hp u
theorem Keep.cell {a b : World} (h : Keep a b) {p : Addr} {v : Value} (hc : a.cell? p = some v) : b.cell? p = some v :=
  (Below.cell h (World.block_lt_of_cell? a p hc)).trans hc
theorem Keep.le {a b : World} (h : Keep a b) : a.heap.size ≤ b.heap.size := h.size
theorem Keep.at {a b : World} (h : Keep a b) {i : Nat} {o : Obj} (hb : a.heap[i]? = some o) : b.heap[i]? = some o := by
  rw [h.block i (Array.getElem?_eq_some_iff.1 hb).1]; exact hb
/-- A text's bytes as a list. -/
theorem sz_mk (l : List UInt8) : (ByteArray.mk l.toArray).size = l.length := by simp [ByteArray.size]
theorem dt_mk (l : List UInt8) : (ByteArray.mk l.toArray).data.toList = l := by simp
theorem run_ix (l : List UInt8) (j : Nat) (h : j < l.length) (w : World) : (Instr.index 9 (.string ⟨l.toArray⟩) (.int .i64 (j : Int))).run Tryz.prog w = .ok (.int .u8 ((l.getD j 0).toNat : Nat)) w := by
  have hs : (ByteArray.mk l.toArray).size = l.length := sz_mk l
  have h1 : (0 : Int) ≤ (j : Int) ∧ (j : Int) < ((ByteArray.mk l.toArray).size : Int) := by rw [hs]; omega
  rw [run_index_string w 9 _ .i64 j Tryz.underlying9, dif_pos h1]
  have : (l.getD j 0) = ((ByteArray.mk l.toArray)[((j : Int)).toNat]'(by rw [hs]; omega)) := by
    show _ = (ByteArray.mk l.toArray).data[((j : Int)).toNat]'_
    simp [List.getD, h]
  rw [this]
theorem ext_mk (l : List UInt8) (a b : Nat) : (ByteArray.mk l.toArray).extract a b = ⟨((l.take b).drop a).toArray⟩ := by
  rw [ByteArray.extract_mk, List.drop_take]
theorem run_from (l : List UInt8) (j : Nat) (h : j ≤ l.length) (w : World) : (Instr.slice 9 (.string ⟨l.toArray⟩) (some (.int .i64 (j : Int))) none none).run Tryz.prog w = .ok (.string ⟨(l.drop j).toArray⟩) w := by
  rw [run_slice_string_l w 9 _ Tryz.underlying9 .i64 (j : Int) (by omega) (by rw [sz_mk]; omega)]
  rw [ext_mk, sz_mk, List.take_length]; rfl
theorem run_upto (l : List UInt8) (j : Nat) (h : j ≤ l.length) (w : World) : (Instr.slice 9 (.string ⟨l.toArray⟩) none (some (.int .i64 (j : Int))) none).run Tryz.prog w = .ok (.string ⟨(l.take j).toArray⟩) w := by
  rw [run_slice_string_h w 9 _ Tryz.underlying9 .i64 (j : Int) (by omega) (by rw [sz_mk]; omega)]
  rw [ext_mk]; rfl
end Go.Proofs.YtgjhbolnnnibkaaGreatDoor
set_option linter.unusedVariables false
set_option linter.unusedSimpArgs false
namespace Go.Proofs.YtgjhbolnnnibkaaGreatDoor
open Go.RowKit Go.Shelf
/-- All but one block as it was. -/
structure Oth (g : Nat) (w w' : World) : Prop where
  os : w'.os = w.os
  tape : w'.tape = w.tape
  output : w'.output = w.output
  size : w'.heap.size = w.heap.size
  block : ∀ k, k ≠ g → w'.heap[k]? = w.heap[k]?
theorem Oth.refl (g : Nat) (w : World) : Oth g w w := ⟨rfl, rfl, rfl, rfl, fun _ _ => rfl⟩
theorem Oth.trans {g : Nat} {a b c : World} (h : Oth g a b) (k : Oth g b c) : Oth g a c := ⟨k.os.trans h.os, k.tape.trans h.tape, k.output.trans h.output, k.size.trans h.size, fun j hj => (k.block j hj).trans (h.block j hj)⟩
theorem Oth.set {g : Nat} {a b : World} (h : Oth g a b) (j : Nat) (v : Value) : Oth g a (b.setCell ⟨g, j, none⟩ v) := ⟨h.os, h.tape, h.output, by rw [World.size_setCell]; exact h.size, fun k hk => (Below.heap_setCell _ _ _ _ (by simpa using hk)).trans (h.block k hk)⟩
theorem Oth.drewN {g : Nat} {a b : World} (h : Oth g a b) (n : Nat) : Oth g a (b.drewN n) := ⟨h.os, h.tape, h.output, h.size, h.block⟩
/-- A reader: its text and how far it has come. -/
def Rr (w : World) (b : Nat) (s : List UInt8) (k : Nat) : Prop := w.heap[b]? = some (.cells #[.string ⟨s.toArray⟩, .int .i64 (k : Int)] 80 (0, 0))
theorem Rr.c0 {w : World} {b k : Nat} {s : List UInt8} (h : Rr w b s k) : w.cell? ⟨b, 0, none⟩ = some (.string ⟨s.toArray⟩) := by rw [cell_of_row w b 0 _ 80 (0, 0) h]; rfl
theorem Rr.c1 {w : World} {b k : Nat} {s : List UInt8} (h : Rr w b s k) : w.cell? ⟨b, 1, none⟩ = some (.int .i64 (k : Int)) := by rw [cell_of_row w b 1 _ 80 (0, 0) h]; rfl
theorem Rr.f1 {w : World} {b k : Nat} {s : List UInt8} (h : Rr w b s k) (j : Nat) : w.frozen? ⟨b, j, none⟩ = false := frozen_of_row w b j _ 80 h
theorem Rr.set {w : World} {b k : Nat} {s : List UInt8} (h : Rr w b s k) (j : Nat) : Rr (w.setCell ⟨b, 1, none⟩ (.int .i64 (j : Int))) b s j := by
  have := heap_setCell_same w b 1 _ 80 (.int .i64 (j : Int)) h
  unfold Rr
  rw [this]
  rfl
theorem Rr.drewN {w : World} {b k : Nat} {s : List UInt8} (h : Rr w b s k) (n : Nat) : Rr (w.drewN n) b s k := h
theorem Rr.lt {w : World} {b k : Nat} {s : List UInt8} (h : Rr w b s k) : b < w.heap.size := (Array.getElem?_eq_some_iff.1 h).1
theorem ixB (l : List UInt8) (c : UInt8) : (Lib.indexByte l c < 0) ↔ c ∉ l := by
  induction l with
  | nil => simp [Lib.indexByte]
  | cons b l ih =>
    have hge := Lib.indexByte_ge l c
    unfold Lib.indexByte
    by_cases h : b = c
    · subst h; simp
    · have hb : (b == c) = false := by simpa using h
      rw [hb]
      simp only [Bool.false_eq_true, if_false]
      by_cases h2 : Lib.indexByte l c = -1
      · rw [h2]
        have : c ∉ l := ih.1 (by omega)
        simp [this, Ne.symm h]
      · have h3 : (Lib.indexByte l c == -1) = false := by simpa using h2
        rw [h3]
        simp only [Bool.false_eq_true, if_false]
        have : c ∈ l := by
          refine Classical.byContradiction fun q => ?_
          have := ih.2 q
          omega
        simp [this]
        omega
/-- Whether the next byte is one of these. -/
def tk (s ts : List UInt8) (k : Nat) : Bool := decide (k < s.length ∧ s.getD k 0 ∈ ts)
set_option maxRecDepth 100000 in
set_option maxHeartbeats 2000000 in
theorem takes_any (b k : Nat) (s ts : List UInt8) (w : World) (hs : s.length ≤ 4096) (hk : k ≤ s.length) (h : Rr w b s k)
    (hI : ∀ (c : UInt8) wx, Calls Tryz.prog 101 #[.string ⟨ts.toArray⟩, .int .u8 (c.toNat : Int)] wx fun e w' => e = .returned (.int .i64 (Lib.indexByte ts c)) ∧ w' = wx) :
    Calls Tryz.prog 64 #[.pointer (some ⟨b, 0, none⟩), .string ⟨ts.toArray⟩] w fun e w' => e = .returned (.bool (tk s ts k)) ∧ Rr w' b s (if tk s ts k then k + 1 else k) ∧ Oth b w w' := by
  have c0 := h.c0
  have c1 := h.c1
  have f1 := h.f1 1
  have HR : Hid (Rr w b s k) := h
  obtain ⟨L, hL⟩ : ∃ L, s.length = L := ⟨_, rfl⟩
  have hsz : (ByteArray.mk s.toArray).size = L := by rw [sz_mk]; exact hL
  rw [hL] at hs hk
  clear h
  by_cases hkl : k < L
  · have hne : ¬ ((k : Int) = (L : Int)) := by omega
    have hneb : ((k : Int) == (L : Int)) = false := by simpa using hne
    have hix := fun wx => run_ix s k (by omega) wx
    obtain ⟨c, hc⟩ : ∃ c, s.getD k 0 = c := ⟨_, rfl⟩
    rw [hc] at hix
    have hIc := hI c
    by_cases hm : c ∈ ts
    · have ht : tk s ts k = true := by unfold tk; rw [hc]; exact decide_eq_true ⟨by omega, hm⟩
      have hlt : ¬ Lib.indexByte ts c < 0 := fun q => (ixB ts c).1 q hm
      generalize Lib.indexByte ts c = r at hIc hlt
      rw [ht]
      clear hI hc hm ht
      go_enter Tryz.func64, Tryz.ntmps64
      go_wp2_with fail
      refine wp_region_quiet_lit (by kernel_rfl) (by kernel_rfl) ?_
      iterate 24
        with_reducible refine wpQuiet_step ?_
        intro K hK
        go_simp
        first
          | (with_reducible refine hK _ ?_; clear hK K)
          | (with_reducible refine (if_neg ?_).mpr (hK _ ?_)
             · decide
             clear hK K)
          | (with_reducible refine ⟨.int .i64 r, fun aw => (hIc _).mono ?_, hK _ ?_⟩
             · rintro e w' ⟨rfl, rfl⟩; exact ⟨rfl, _, rfl⟩
             clear hK K)
          | (apply Exists.intro
             refine ⟨fun _ => ?_, hK _ ?_⟩
             · with_reducible rfl
             clear hK K)
      refine wpQuiet_nil ?_
      rintro _ ⟨nq, rfl⟩
      have hR2 := HR.out.drewN nq
      have fz := hR2.f1 1
      have cz := hR2.c1
      have q1 := hR2.set (k + 1)
      have q2 := (Oth.refl b w).drewN nq
      have q3 := q2.set 1 (.int .i64 ((k + 1 : Nat) : Int))
      generalize w.drewN nq = wv at fz cz q1 q3 ⊢
      have hcast : ((k + 1 : Nat) : Int) = (k : Int) + 1 := by omega
      rw [hcast] at q1 q3
      clear hR2 q2 hcast c0 c1 f1
      go_wp2_with fail
      go_ret
      exact ⟨rfl, q1, q3⟩
    · have ht : tk s ts k = false := by unfold tk; rw [hc]; exact decide_eq_false (fun q => hm q.2)
      have hlt : Lib.indexByte ts c < 0 := (ixB ts c).2 hm
      generalize Lib.indexByte ts c = r at hIc hlt
      rw [ht]
      clear hI hc hm ht
      go_enter Tryz.func64, Tryz.ntmps64
      go_wp2_with fail
      refine wp_region_quiet_lit (by kernel_rfl) (by kernel_rfl) ?_
      iterate 24
        with_reducible refine wpQuiet_step ?_
        intro K hK
        go_simp
        first
          | (with_reducible refine hK _ ?_; clear hK K)
          | (with_reducible refine (if_neg ?_).mpr (hK _ ?_)
             · decide
             clear hK K)
          | (with_reducible refine ⟨.int .i64 r, fun aw => (hIc _).mono ?_, hK _ ?_⟩
             · rintro e w' ⟨rfl, rfl⟩; exact ⟨rfl, _, rfl⟩
             clear hK K)
          | (apply Exists.intro
             refine ⟨fun _ => ?_, hK _ ?_⟩
             · with_reducible rfl
             clear hK K)
      refine wpQuiet_nil ?_
      rintro _ ⟨nq, rfl⟩
      go_wp2_with fail
      go_ret
      exact ⟨rfl, HR.out.drewN nq, (Oth.refl b w).drewN nq⟩
  · obtain rfl : k = L := by omega
    have ht : tk s ts k = false := by unfold tk; exact decide_eq_false (fun q => by omega)
    rw [ht]
    clear hI ht
    go_enter Tryz.func64, Tryz.ntmps64
    go_wp2_with fail
    refine wp_region_quiet_lit (by kernel_rfl) (by kernel_rfl) ?_
    iterate 24
      with_reducible refine wpQuiet_step ?_
      intro K hK
      go_simp
      first
        | (with_reducible refine hK _ ?_; clear hK K)
        | (with_reducible refine (if_neg ?_).mpr (hK _ ?_)
           · decide
           clear hK K)
        | (apply Exists.intro
           refine ⟨fun _ => ?_, hK _ ?_⟩
           · with_reducible rfl
           clear hK K)
    refine wpQuiet_nil ?_
    rintro _ ⟨nq, rfl⟩
    go_wp2_with fail
    go_ret
    exact ⟨rfl, HR.out.drewN nq, (Oth.refl b w).drewN nq⟩
end Go.Proofs.YtgjhbolnnnibkaaGreatDoor
set_option linter.unusedVariables false
set_option linter.unusedSimpArgs false
namespace Go.Proofs.YtgjhbolnnnibkaaGreatDoor
open Go.RowKit Go.Shelf
def tenD : List UInt8 := [48, 49, 50, 51, 52, 53, 54, 55, 56, 57]
theorem mem_tenD (b : UInt8) : b ∈ tenD ↔ isD b = true := by
  unfold isD
  rw [decide_eq_true_iff]
  constructor
  · intro h
    unfold tenD at h
    simp only [List.mem_cons, List.not_mem_nil, or_false] at h
    rcases h with h | h | h | h | h | h | h | h | h | h <;> (rw [h]; decide)
  · intro h
    have h2 : b.toNat = 48 ∨ b.toNat = 49 ∨ b.toNat = 50 ∨ b.toNat = 51 ∨ b.toNat = 52 ∨ b.toNat = 53 ∨ b.toNat = 54 ∨ b.toNat = 55 ∨ b.toNat = 56 ∨ b.toNat = 57 := by omega
    have e : ∀ c : UInt8, b.toNat = c.toNat → b = c := fun c h => UInt8.toNat_inj.1 h
    unfold tenD
    rcases h2 with h | h | h | h | h | h | h | h | h | h
    · rw [e 48 h]; decide
    · rw [e 49 h]; decide
    · rw [e 50 h]; decide
    · rw [e 51 h]; decide
    · rw [e 52 h]; decide
    · rw [e 53 h]; decide
    · rw [e 54 h]; decide
    · rw [e 55 h]; decide
    · rw [e 56 h]; decide
    · rw [e 57 h]; decide
/-- The digits from a place on, not more than so many. -/
def dg (s : List UInt8) (k most : Nat) : List UInt8 := ((s.drop k).takeWhile isD).take most
theorem dg_le (s : List UInt8) (k most : Nat) : (dg s k most).length ≤ s.length - k := by
  unfold dg
  rw [List.length_take]
  have := (List.takeWhile_prefix (p := isD) (l := s.drop k)).length_le
  rw [List.length_drop] at this
  omega
theorem tw_more {p : UInt8 → Bool} : ∀ (l : List UInt8) (j : Nat), j < (l.takeWhile p).length ↔ j < l.length ∧ ∀ i, i ≤ j → p (l.getD i 0) = true
  | [], j => by simp
  | b :: l, j => by
    by_cases h : p b = true
    · rw [List.takeWhile_cons_of_pos h]
      cases j with
      | zero =>
        simp [h]
      | succ j =>
        rw [List.length_cons, List.length_cons, Nat.add_lt_add_iff_right, tw_more l j]
        constructor
        · rintro ⟨h1, h2⟩
          refine ⟨by omega, fun i hi => ?_⟩
          cases i with
          | zero => simpa using h
          | succ i => simpa using h2 i (by omega)
        · rintro ⟨h1, h2⟩
          exact ⟨by omega, fun i hi => by simpa using h2 (i + 1) (by omega)⟩
    · rw [List.takeWhile_cons_of_neg h]
      simp
      intro _
      exact ⟨0, by omega, by simpa using h⟩
theorem tw_eq {p : UInt8 → Bool} (l : List UInt8) : l.takeWhile p = l.take (l.takeWhile p).length := by
  have := List.prefix_iff_eq_take.1 (List.takeWhile_prefix (p := p) (l := l))
  exact this
/-- Where the digits end. -/
theorem dg_end (s : List UInt8) (k most j : Nat) (hj : j ≤ most) (h1 : ∀ i, i < j → k + i < s.length ∧ isD (s.getD (k + i) 0) = true) (h2 : j = most ∨ ¬ (k + j < s.length ∧ isD (s.getD (k + j) 0) = true)) : dg s k most = (s.take (k + j)).drop k ∧ (dg s k most).length = j := by
  have hget : ∀ i, (s.drop k).getD i 0 = s.getD (k + i) 0 := fun i => by simp [List.getD, List.getElem?_drop]
  have hge : j ≤ ((s.drop k).takeWhile isD).length := by
    cases j with
    | zero => omega
    | succ j =>
      have := (tw_more (p := isD) (s.drop k) j).2 ⟨by rw [List.length_drop]; have := (h1 j (by omega)).1; omega, fun i hi => by rw [hget]; exact (h1 i (by omega)).2⟩
      omega
  have hlen : (dg s k most).length = j := by
    unfold dg
    rw [List.length_take]
    rcases h2 with h2 | h2
    · omega
    · have : ¬ j < ((s.drop k).takeWhile isD).length := by
        intro q
        obtain ⟨a1, a2⟩ := (tw_more (p := isD) (s.drop k) j).1 q
        rw [List.length_drop] at a1
        exact h2 ⟨by omega, by rw [← hget]; exact a2 j (Nat.le_refl _)⟩
      omega
  refine ⟨?_, hlen⟩
  have e1 : dg s k most = (s.drop k).take j := by
    have : dg s k most = ((s.drop k).takeWhile isD).take (dg s k most).length := by
      unfold dg
      rw [List.length_take, ← List.take_take, List.take_length]
    rw [this, hlen, tw_eq (s.drop k), List.take_take, Nat.min_eq_left hge]
  rw [e1, List.drop_take]
  congr 1
  omega
end Go.Proofs.YtgjhbolnnnibkaaGreatDoor
set_option linter.unusedVariables false
set_option linter.unusedSimpArgs false
namespace Go.Proofs.YtgjhbolnnnibkaaGreatDoor
open Go.RowKit Go.Shelf
theorem run_cut (l : List UInt8) (f i : Nat) (h : f ≤ i) (h2 : i ≤ l.length) (w : World) : (Instr.slice 9 (.string ⟨l.toArray⟩) (some (.int .i64 (f : Int))) (some (.int .i64 (i : Int))) none).run Tryz.prog w = .ok (.string ⟨((l.take i).drop f).toArray⟩) w := by
  rw [run_slice_string w 9 _ .i64 .i64 (f : Int) (i : Int) Tryz.underlying9 (by omega) (by omega) (by rw [sz_mk]; omega)]
  rw [ext_mk]; rfl
theorem ms_lt {most m k j : Nat} (h1 : m - k = j) (h2 : m + 1 - k = j + 1) (h : j < most) : most - (m + 1 - k) < most - (m - k) := by
  rw [h1, h2]
  omega
/-- What is asked of strings.IndexByte. -/
def IxC : Prop := ∀ (ts : List UInt8) (c : UInt8) (wx : World), Calls Tryz.prog 101 #[.string ⟨ts.toArray⟩, .int .u8 (c.toNat : Int)] wx fun e w' => e = .returned (.int .i64 (Lib.indexByte ts c)) ∧ w' = wx
set_option maxRecDepth 100000 in
set_option maxHeartbeats 2000000 in
theorem digits_any (hI : IxC) (b k most : Nat) (s : List UInt8) (w : World) (hs : s.length ≤ 4096) (hk : k ≤ s.length) (hm : most ≤ 4096) (h : Rr w b s k) :
    Calls Tryz.prog 65 #[.pointer (some ⟨b, 0, none⟩), .int .i64 (most : Int)] w fun e w' => e = .returned (.string ⟨(dg s k most).toArray⟩) ∧ Rr w' b s (k + (dg s k most).length) ∧ Oth b w w' := by
  have c0 := h.c0
  have c1 := h.c1
  have HR : Hid (Rr w b s k) := h
  clear h
  go_enter Tryz.func65, Tryz.ntmps65
  go_wp2_with fail
  go_loopw [21] (fun _ wr => ∃ j : Nat, j ≤ most ∧ Hid (∀ i, i < j → k + i < s.length ∧ isD (s.getD (k + i) 0) = true) ∧ Hid (Rr wr b s (k + j)) ∧ Oth b w wr) (fun _ wr => most - ((match wr.cell? ⟨b, 1, none⟩ with | some (.int _ x) => x.toNat | _ => 0) - k))
  case atStart => exact ⟨0, by omega, fun i hi => by omega, HR, Oth.refl _ _⟩
  case round =>
    obtain ⟨j, hj, hd, hR, ho⟩ := hrel
    obtain ⟨m, hm2⟩ : ∃ m, k + j = m := ⟨_, rfl⟩
    have hR0 : Hid (Rr wr b s m) := by rw [← hm2]; exact hR
    have hms : m ≤ s.length := by
      rw [← hm2]
      cases j with
      | zero => exact hk
      | succ j => have := (hd.out j (by omega)).1; omega
    have cx := hR0.out.c1
    have cy := hR0.out.c0
    have hsub : (m : Int) - (k : Int) = (j : Int) := by omega
    have hjm : IntKind.i64.wrap ((m : Int) - (k : Int)) = (j : Int) := by rw [IntWalk.i64_left, hsub]; exact IntWalk.wrap64_in _ (by omega)
    have HM : Hid (k + j = m) := hm2
    clear c0 c1
    by_cases hjm2 : j < most
    · have hjc : (j : Int) < (most : Int) := by omega
      have hT := takes_any b m s tenD wr hs hms hR0.out (fun c wx => hI tenD c wx)
      unfold tenD at hT
      by_cases ht : tk s [48, 49, 50, 51, 52, 53, 54, 55, 56, 57] m = true
      · rw [ht] at hT
        simp only [if_true] at hT
        have hdm : m < s.length ∧ isD (s.getD m 0) = true := by
          have := of_decide_eq_true ht
          exact ⟨this.1, (mem_tenD _).1 this.2⟩
        have HD : Hid (∀ i, i < j + 1 → k + i < s.length ∧ isD (s.getD (k + i) 0) = true) := by
          intro i hi
          by_cases e : i = j
          · rw [e, HM.out]; exact hdm
          · exact hd.out i (by omega)
        have HDM : Hid (m < s.length) := hdm.1
        clear ht hdm hm2 hsub
        go_wp2_with (go_at_call 64; refine hT.mono ?_; rintro e w2 ⟨rfl, r2, o2⟩; replace r2 : Hid (Rr w2 b s (m + 1)) := r2)
        have hx1 := r2.out.c1
        have hx0 := hR0.out.c1
        refine ⟨⟨j + 1, by omega, HD, ?_, ho.trans o2⟩, ?_⟩
        · show Rr _ _ _ _
          rw [show k + (j + 1) = m + 1 by have := HM.out; omega]
          exact r2.out
        · simp only [hx1, hx0, Int.toNat_natCast]
          have h1 : m - k = j := by have := HM.out; omega
          have h2 : m + 1 - k = j + 1 := by have := HM.out; omega
          exact ms_lt h1 h2 hjm2
      · have ht2 : tk s [48, 49, 50, 51, 52, 53, 54, 55, 56, 57] m = false := by simpa using ht
        rw [ht2] at hT
        simp only [Bool.false_eq_true, if_false] at hT
        have HE : Hid (dg s k most = (s.take m).drop k ∧ (dg s k most).length = j) := by
          have := dg_end s k most j (by omega) hd.out (.inr (by
            rintro ⟨a1, a2⟩
            rw [HM.out] at a1 a2
            apply ht
            unfold tk
            exact decide_eq_true ⟨a1, (mem_tenD _).2 a2⟩))
          rw [HM.out] at this
          exact this
        have hcut := fun wx => run_cut s k m (by omega) hms wx
        rw [← HE.out.1] at hcut
        clear ht ht2 hm2 hsub
        go_wp2_with (go_at_call 64; refine hT.mono ?_; rintro e w2 ⟨rfl, r2, o2⟩; replace r2 : Hid (Rr w2 b s m) := r2; have cx2 := r2.out.c1; have cy2 := r2.out.c0)
        refine wp_region_quiet_lit (by kernel_rfl) (by kernel_rfl) ?_
        iterate 11
          with_reducible refine wpQuiet_step ?_
          intro K hK
          go_simp
          first
            | (with_reducible refine hK _ ?_; clear hK K)
            | (with_reducible refine (if_neg ?_).mpr (hK _ ?_)
               · decide
               clear hK K)
            | (apply Exists.intro
               refine ⟨fun _ => ?_, hK _ ?_⟩
               · with_reducible rfl
               clear hK K)
        refine wpQuiet_nil ?_
        rintro _ ⟨nq, rfl⟩
        go_wp2_with fail
        go_ret
        refine ⟨rfl, ?_, (ho.trans o2).drewN nq⟩
        rw [HE.out.2, HM.out]
        exact r2.out.drewN nq
    · have hjc : ¬ (j : Int) < (most : Int) := by omega
      have HE : Hid (dg s k most = (s.take m).drop k ∧ (dg s k most).length = j) := by
        have := dg_end s k most j (by omega) hd.out (.inl (by omega))
        rw [HM.out] at this
        exact this
      have hcut := fun wx => run_cut s k m (by omega) hms wx
      rw [← HE.out.1] at hcut
      clear hm2 hsub
      go_wp2_with fail
      refine wp_region_quiet_lit (by kernel_rfl) (by kernel_rfl) ?_
      iterate 11
        with_reducible refine wpQuiet_step ?_
        intro K hK
        go_simp
        first
          | (with_reducible refine hK _ ?_; clear hK K)
          | (with_reducible refine (if_neg ?_).mpr (hK _ ?_)
             · decide
             clear hK K)
          | (apply Exists.intro
             refine ⟨fun _ => ?_, hK _ ?_⟩
             · with_reducible rfl
             clear hK K)
      refine wpQuiet_nil ?_
      rintro _ ⟨nq, rfl⟩
      go_wp2_with fail
      go_ret
      refine ⟨rfl, ?_, ho.drewN nq⟩
      rw [HE.out.2, HM.out]
      exact hR0.out.drewN nq
end Go.Proofs.YtgjhbolnnnibkaaGreatDoor
