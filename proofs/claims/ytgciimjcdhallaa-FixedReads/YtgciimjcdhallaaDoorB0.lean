import Derived.Test.YtgciimjcdhallaaDoorProg
import Derived.WalkKit
import Derived.WalkSpells
import Derived.WalkLawsBesides
import Derived.Deep.Draws
import Derived.Deep.QuietTactic
import Derived.Laws.Externs
import Derived.Shelf.Abstract
import Derived.Below
import Derived.Deep.RegionLaw
import Derived.Laws.CopyOwn
import Derived.BigRegion
import Derived.BigQuiet
import Derived.Deep.RegionHeld3
set_option linter.unusedVariables false
set_option linter.unusedSimpArgs false
namespace Go.Proofs.YtgciimjcdhallaaDoor
theorem dw_nil {α : Type} (p : α → Bool) : ∀ l : List α, l.dropWhile p = [] ↔ ∀ b ∈ l, p b = true
  | [] => by simp
  | x :: l => by
    by_cases h : p x = true
    · rw [List.dropWhile_cons_of_pos h, dw_nil p l]
      simp [h]
    · rw [List.dropWhile_cons_of_neg h]
      simp [h]
theorem dw_head {α : Type} (p : α → Bool) : ∀ (l : List α) (b : α) (r : List α), l.dropWhile p = b :: r → p b = false
  | [], b, r, h => by simp at h
  | x :: l, b, r, h => by
    by_cases q : p x = true
    · rw [List.dropWhile_cons_of_pos q] at h
      exact dw_head p l b r h
    · rw [List.dropWhile_cons_of_neg q] at h
      injection h with h1 h2
      rw [← h1]
      simpa using q
theorem tw_all {α : Type} (p : α → Bool) : ∀ (l : List α), ∀ b ∈ l.takeWhile p, p b = true
  | [], b, h => by simp at h
  | x :: l, b, h => by
    by_cases q : p x = true
    · rw [List.takeWhile_cons_of_pos q] at h
      rcases List.mem_cons.1 h with e | e
      · rw [e]; exact q
      · exact tw_all p l b e
    · rw [List.takeWhile_cons_of_neg q] at h
      cases h
/-- Decimal digits as mathematics: no program. -/
def isD (b : UInt8) : Bool := decide (48 ≤ b.toNat ∧ b.toNat ≤ 57)
def dv (b : UInt8) : Nat := b.toNat - 48
def nat (l : List UInt8) : Nat := l.foldl (fun n b => 10 * n + dv b) 0
def allD (l : List UInt8) : Prop := ∀ b ∈ l, isD b = true
theorem dv_lt {b : UInt8} (h : isD b = true) : dv b ≤ 9 := by
  unfold isD at h
  unfold dv
  have := of_decide_eq_true h
  omega
theorem nat_nil : nat [] = 0 := rfl
theorem fold_nat (l : List UInt8) (n : Nat) : l.foldl (fun n b => 10 * n + dv b) n = n * 10 ^ l.length + nat l := by
  induction l generalizing n with
  | nil => simp [nat]
  | cons b l ih =>
    unfold nat
    rw [List.foldl_cons, List.foldl_cons, ih, ih (10 * 0 + dv b), List.length_cons, Nat.pow_succ]
    have e1 : (10 * n + dv b) * 10 ^ l.length = n * (10 ^ l.length * 10) + dv b * 10 ^ l.length := by
      rw [Nat.add_mul, Nat.mul_comm 10 n, Nat.mul_assoc, Nat.mul_comm 10 (10 ^ l.length)]
    rw [e1]
    simp
    omega
theorem nat_cons (b : UInt8) (l : List UInt8) : nat (b :: l) = dv b * 10 ^ l.length + nat l := by
  have := fold_nat l (dv b)
  unfold nat at this ⊢
  rw [List.foldl_cons]
  simpa using this
theorem nat_append (a b : List UInt8) : nat (a ++ b) = nat a * 10 ^ b.length + nat b := by
  have := fold_nat b (nat a)
  unfold nat at this ⊢
  rw [List.foldl_append]
  exact this
theorem nat_lt {l : List UInt8} (h : allD l) : nat l < 10 ^ l.length := by
  induction l with
  | nil => simp [nat]
  | cons b l ih =>
    rw [nat_cons, List.length_cons, Nat.pow_succ]
    have h1 := ih (fun x hx => h x (List.mem_cons_of_mem _ hx))
    have h2 := dv_lt (h b List.mem_cons_self)
    have h3 : dv b * 10 ^ l.length ≤ 9 * 10 ^ l.length := Nat.mul_le_mul_right _ h2
    omega
theorem nat_zeros (k : Nat) : nat (List.replicate k 48) = 0 := by
  induction k with
  | zero => rfl
  | succ k ih => rw [List.replicate_succ, nat_cons, ih]; simp [dv]
theorem allD.app {a b : List UInt8} (ha : allD a) (hb : allD b) : allD (a ++ b) := by
  intro x hx
  rcases List.mem_append.1 hx with q | q
  · exact ha x q
  · exact hb x q
theorem allD.take {a : List UInt8} (ha : allD a) (k : Nat) : allD (a.take k) := fun x hx => ha x (List.mem_of_mem_take hx)
theorem allD.drop {a : List UInt8} (ha : allD a) (k : Nat) : allD (a.drop k) := fun x hx => ha x (List.mem_of_mem_drop hx)
theorem allD.zeros (k : Nat) : allD (List.replicate k 48) := by
  intro x hx
  rw [(List.mem_replicate.1 hx).2]
  decide
theorem allD.while (l : List UInt8) : allD (l.takeWhile isD) := tw_all isD l
/-- Noughts at the front go. -/
def tl0 (l : List UInt8) : List UInt8 := l.dropWhile fun b => b == 48
theorem tl0_nat (l : List UInt8) : nat (tl0 l) = nat l := by
  unfold tl0
  induction l with
  | nil => rfl
  | cons b l ih =>
    by_cases h : b = 48
    · subst h
      rw [List.dropWhile_cons_of_pos (by simp), ih, nat_cons]
      simp [dv]
    · rw [List.dropWhile_cons_of_neg (by simpa using h)]
theorem tl0_allD {l : List UInt8} (h : allD l) : allD (tl0 l) := fun x hx => h x ((List.dropWhile_suffix _).subset hx)
theorem tl0_len (l : List UInt8) : (tl0 l).length ≤ l.length := (List.dropWhile_suffix _).length_le
/-- What is left begins with another digit: so it says much. -/
theorem tl0_ge {l : List UInt8} (h : allD l) (hne : tl0 l ≠ []) : 10 ^ ((tl0 l).length - 1) ≤ nat l := by
  rw [← tl0_nat]
  have hd := tl0_allD h
  match hl : tl0 l, hne with
  | b :: r, _ =>
    rw [hl] at hd
    have hb : b ≠ 48 := by
      intro e
      have : (b == 48) = false := dw_head (fun b : UInt8 => b == 48) l b r hl
      rw [e] at this
      simp at this
    have h1 : 1 ≤ dv b := by
      have := hd b List.mem_cons_self
      unfold isD at this
      have h2 := of_decide_eq_true this
      have h3 : b.toNat ≠ 48 := by
        intro e
        apply hb
        have : (48 : UInt8).toNat = 48 := rfl
        exact UInt8.toNat_inj.1 (by rw [e, this])
      unfold dv
      omega
    rw [nat_cons, List.length_cons]
    have h4 : 1 * 10 ^ r.length ≤ dv b * 10 ^ r.length := Nat.mul_le_mul_right _ h1
    have h5 : r.length + 1 - 1 = r.length := by omega
    rw [h5]
    omega
theorem tl0_nil {l : List UInt8} (h : allD l) : tl0 l = [] ↔ nat l = 0 := by
  constructor
  · intro e; rw [← tl0_nat, e]; rfl
  · intro e
    refine Classical.byContradiction fun hne => ?_
    have h1 := tl0_ge h hne
    have h2 : 0 < 10 ^ ((tl0 l).length - 1) := Nat.pow_pos (by omega)
    omega
/-- Noughts at the end go. -/
def tr0 (l : List UInt8) : List UInt8 := (l.reverse.dropWhile fun b => b == 48).reverse
theorem nat_pos_of {l : List UInt8} (h : allD l) {b : UInt8} (hb : b ∈ l) (h0 : b ≠ 48) : 0 < nat l := by
  rcases Nat.eq_zero_or_pos (nat l) with q | q
  · exfalso
    have h1 := (tl0_nil h).2 q
    unfold tl0 at h1
    rw [dw_nil] at h1
    have := h1 b hb
    exact h0 (by simpa using this)
  · exact q
theorem tr0_nil (l : List UInt8) : tr0 l = [] ↔ ∀ b ∈ l, b = 48 := by
  unfold tr0
  rw [List.reverse_eq_nil_iff, dw_nil]
  simp
theorem tr0_cons (b : UInt8) (l : List UInt8) (h : tr0 (b :: l) ≠ []) : tr0 (b :: l) = b :: tr0 l := by
  unfold tr0 at h ⊢
  rw [List.reverse_cons, List.dropWhile_append] at h ⊢
  by_cases q : (l.reverse.dropWhile fun b => b == 48).isEmpty = true
  · rw [if_pos q] at h ⊢
    have q2 : l.reverse.dropWhile (fun b => b == 48) = [] := by simpa using q
    rw [q2]
    by_cases e : b = 48
    · subst e; simp at h
    · rw [List.dropWhile_cons_of_neg (by simpa using e)]
      rfl
  · rw [if_neg q, List.reverse_append]
    rfl
/-- What digits behind a point say of a half: more, just it, less. -/
theorem half_of {b : UInt8} {t : List UInt8} (h : allD (b :: t)) :
    (5 * 10 ^ t.length < nat (b :: t) ↔ (53 < b.toNat ∨ b.toNat = 53 ∧ tr0 t ≠ [])) ∧ (nat (b :: t) = 5 * 10 ^ t.length ↔ b.toNat = 53 ∧ tr0 t = []) := by
  have ht : allD t := fun x hx => h x (List.mem_cons_of_mem _ hx)
  have hb := h b List.mem_cons_self
  unfold isD at hb
  have hb2 := of_decide_eq_true hb
  have hlt := nat_lt ht
  rw [nat_cons]
  have hz : tr0 t = [] ↔ nat t = 0 := by
    rw [tr0_nil, ← tl0_nil ht]
    unfold tl0
    rw [dw_nil]
    simp
  have hdv : dv b = b.toNat - 48 := rfl
  rcases Nat.lt_trichotomy b.toNat 53 with q | q | q
  · have h1 : dv b ≤ 4 := by omega
    have h2 : dv b * 10 ^ t.length ≤ 4 * 10 ^ t.length := Nat.mul_le_mul_right _ h1
    refine ⟨⟨fun _ => by omega, ?_⟩, ⟨fun _ => by omega, ?_⟩⟩
    · rintro (a | ⟨a, -⟩) <;> omega
    · rintro ⟨a, -⟩; omega
  · have h1 : dv b = 5 := by omega
    rw [h1]
    refine ⟨⟨fun a => .inr ⟨q, fun e => by have := hz.1 e; omega⟩, ?_⟩, ⟨fun a => ⟨q, hz.2 (by omega)⟩, ?_⟩⟩
    · rintro (a | ⟨-, a⟩)
      · omega
      · have : nat t ≠ 0 := fun e => a (hz.2 e)
        omega
    · rintro ⟨-, a⟩
      have := hz.1 a
      omega
  · have h1 : 6 ≤ dv b := by omega
    have h2 : 6 * 10 ^ t.length ≤ dv b * 10 ^ t.length := Nat.mul_le_mul_right _ h1
    have h3 : 0 < 10 ^ t.length := Nat.pow_pos (by omega)
    refine ⟨⟨fun _ => .inl q, fun _ => by omega⟩, ⟨fun _ => by omega, ?_⟩⟩
    rintro ⟨a, -⟩; omega
/-- Rounded to the nearest, ties to even. -/
def rup (x y : Nat) : Nat := if y < 2 * (x % y) ∨ 2 * (x % y) = y ∧ x / y % 2 = 1 then x / y + 1 else x / y
def gt5 : List UInt8 → Bool
  | [] => false
  | b :: t => decide (53 < b.toNat) || (decide (b.toNat = 53) && !t.isEmpty)
def eq5 (r : List UInt8) : Bool := decide (r = [53])
/-- How digits and the digits behind them are rounded. -/
def rq (n : Nat) (r : List UInt8) : Nat := if gt5 r = true ∨ eq5 r = true ∧ n % 2 = 1 then n + 1 else n
theorem rq_nil (n : Nat) : rq n [] = n := by unfold rq; simp [gt5, eq5]
theorem rq_rest {A B : List UInt8} (hB : allD B) (hne : B ≠ []) : rq (nat A) (tr0 B) = rup (nat (A ++ B)) (10 ^ B.length) := by
  match B, hne with
  | b :: t, _ =>
    obtain ⟨h1, h2⟩ := half_of hB
    have hlt := nat_lt hB
    have e : (10 : Nat) ^ (b :: t).length = 10 * 10 ^ t.length := by rw [List.length_cons, Nat.pow_succ, Nat.mul_comm]
    have hdiv : nat (A ++ b :: t) / 10 ^ (b :: t).length = nat A := by
      rw [nat_append, Nat.add_comm, Nat.add_mul_div_right _ _ (Nat.pow_pos (by omega)), Nat.div_eq_of_lt hlt]
      omega
    have hmod : nat (A ++ b :: t) % 10 ^ (b :: t).length = nat (b :: t) := by
      rw [nat_append, Nat.add_comm, Nat.add_mul_mod_self_right, Nat.mod_eq_of_lt hlt]
    unfold rup
    rw [hdiv, hmod]
    have hg : gt5 (tr0 (b :: t)) = true ↔ 10 ^ (b :: t).length < 2 * nat (b :: t) := by
      rw [e]
      have : 10 * 10 ^ t.length < 2 * nat (b :: t) ↔ 5 * 10 ^ t.length < nat (b :: t) := by omega
      rw [this, h1]
      by_cases q : tr0 (b :: t) = []
      · rw [q]
        have q2 := (tr0_nil _).1 q
        have q3 := q2 b List.mem_cons_self
        have q4 : tr0 t = [] := (tr0_nil t).2 fun x hx => q2 x (List.mem_cons_of_mem _ hx)
        rw [q3, q4]
        simp [gt5]
      · rw [tr0_cons b t q]
        simp [gt5]
    have he : eq5 (tr0 (b :: t)) = true ↔ 2 * nat (b :: t) = 10 ^ (b :: t).length := by
      rw [e]
      have : 2 * nat (b :: t) = 10 * 10 ^ t.length ↔ nat (b :: t) = 5 * 10 ^ t.length := by omega
      rw [this, h2]
      unfold eq5
      by_cases q : tr0 (b :: t) = []
      · rw [q]
        have q2 := (tr0_nil _).1 q
        have q3 := q2 b List.mem_cons_self
        rw [q3]
        simp
      · rw [tr0_cons b t q]
        simp
        intro _
        constructor
        · intro h3
          have : b.toNat = (53 : UInt8).toNat := by rw [h3]
          exact this
        · intro h3
          exact UInt8.toNat_inj.1 h3
    unfold rq
    simp only [hg, he]
/-- What the digits of a decimal say, the point moved by p to the right. -/
def mv (N : Nat) (p : Int) : Nat := if 0 ≤ p then N * 10 ^ p.toNat else rup N (10 ^ (-p).toNat)
theorem mv_far {ds : List UInt8} {p : Int} (hd : allD ds) (h : (ds.length : Int) + p < 0) : mv (nat ds) p = 0 := by
  unfold mv
  rw [if_neg (by omega)]
  obtain ⟨k, hk⟩ : ∃ k, (-p).toNat = k + 1 := ⟨(-p).toNat - 1, by omega⟩
  rw [hk]
  have h1 := nat_lt hd
  have h2 : (10 : Nat) ^ ds.length ≤ 10 ^ k := Nat.pow_le_pow_right (by omega) (by omega)
  have h3 : (10 : Nat) ^ (k + 1) = 10 * 10 ^ k := by rw [Nat.pow_succ, Nat.mul_comm]
  unfold rup
  rw [h3, Nat.div_eq_of_lt (by omega), Nat.mod_eq_of_lt (by omega), if_neg (by omega)]
theorem mv_in {ds : List UInt8} {p : Int} {T : Nat} (hd : allD ds) (hT : (ds.length : Int) + p = (T : Int)) : rq (nat ((ds ++ List.replicate (T - ds.length) 48).take T)) (tr0 ((ds ++ List.replicate (T - ds.length) 48).drop T)) = mv (nat ds) p := by
  unfold mv
  by_cases hp : 0 ≤ p
  · rw [if_pos hp]
    have hl : (ds ++ List.replicate (T - ds.length) 48).length = T := by simp; omega
    rw [List.take_of_length_le (by omega), List.drop_of_length_le (by omega)]
    have : tr0 [] = [] := rfl
    rw [this, rq_nil, nat_append, nat_zeros, List.length_replicate]
    have : T - ds.length = p.toNat := by omega
    rw [this]
    omega
  · rw [if_neg hp]
    have : T - ds.length = 0 := by omega
    rw [this, List.replicate_zero, List.append_nil]
    have hl : (ds.drop T).length = (-p).toNat := by rw [List.length_drop]; omega
    have hne : ds.drop T ≠ [] := by
      intro e
      rw [e] at hl
      simp at hl
      omega
    have h1 := rq_rest (A := ds.take T) (hd.drop T) hne
    rw [List.take_append_drop, hl] at h1
    exact h1
theorem mv_great {l : List UInt8} {p : Int} (h : allD l) (hne : tl0 l ≠ []) (hT : 19 < ((tl0 l).length : Int) + p) : 10000000000000000000 ≤ mv (nat l) p := by
  have h1 := tl0_ge h hne
  have hL : 1 ≤ (tl0 l).length := List.length_pos_iff.2 hne
  have e19 : (10 : Nat) ^ 19 = 10000000000000000000 := by decide
  rw [← e19]
  unfold mv
  by_cases hp : 0 ≤ p
  · rw [if_pos hp]
    have h2 : (10 : Nat) ^ ((tl0 l).length - 1) * 10 ^ p.toNat ≤ nat l * 10 ^ p.toNat := Nat.mul_le_mul_right _ h1
    rw [← Nat.pow_add] at h2
    have h3 : (10 : Nat) ^ 19 ≤ 10 ^ ((tl0 l).length - 1 + p.toNat) := Nat.pow_le_pow_right (by omega) (by omega)
    omega
  · rw [if_neg hp]
    have h2 : (10 : Nat) ^ 19 * 10 ^ (-p).toNat ≤ nat l := by
      rw [← Nat.pow_add]
      exact Nat.le_trans (Nat.pow_le_pow_right (by omega) (by omega)) h1
    have h3 : 10 ^ 19 ≤ nat l / 10 ^ (-p).toNat := (Nat.le_div_iff_mul_le (Nat.pow_pos (by omega))).2 h2
    have h4 : nat l / 10 ^ (-p).toNat ≤ rup (nat l) (10 ^ (-p).toNat) := by
      unfold rup
      split <;> omega
    omega
end Go.Proofs.YtgciimjcdhallaaDoor
set_option linter.unusedVariables false
set_option linter.unusedSimpArgs false
namespace Go.Proofs.YtgciimjcdhallaaDoor
open Go.RowKit Go.Shelf
/-- Kept from simp. -/
def Hid (p : Prop) : Prop := p
theorem Hid.out {p : Prop} (h : Hid p) : p := h
/-- Nothing that was there has turned. -/
def Keep (w w' : World) : Prop := Below w.heap.size w w'
theorem Keep.refl (w : World) : Keep w w := Below.refl _ _
theorem Keep.trans {a b c : World} (h : Keep a b) (k : Keep b c) : Keep a c := Below.trans h (Below.mono k h.size)
theorem Keep.drewN {a b : World} (h : Keep a b) (q : Nat) : Keep a (b.drewN q) := ⟨h.os, h.tape, h.output, h.size, h.block⟩
theorem Keep.drew {a b : World} (h : Keep a b) : Keep a b.drew := Below.drew h
theorem Keep.alloc {a b : World} (h : Keep a b) (o : Obj) : Keep a (b.alloc o) := Below.alloc h h.size o
theorem Keep.setCell {a b : World} (h : Keep a b) {p : Addr} (hp : a.heap.size ≤ p.block) (u : Value) : Keep a (b.setCell p u) := Below.setCell h hp u
theorem Keep.cell {a b : World} (h : Keep a b) {p : Addr} {v : Value} (hc : a.cell? p = some v) : b.cell? p = some v :=
  (Below.cell h (World.block_lt_of_cell? a p hc)).trans hc
theorem Keep.le {a b : World} (h : Keep a b) : a.heap.size ≤ b.heap.size := h.size
theorem Keep.of_below {a b : World} {B : Nat} (h : Below B a b) (hB : a.heap.size ≤ B) : Keep a b := Below.mono h hB
theorem Keep.at {a b : World} (h : Keep a b) {i : Nat} {o : Obj} (hb : a.heap[i]? = some o) : b.heap[i]? = some o := by
  rw [h.block i (Array.getElem?_eq_some_iff.1 hb).1]; exact hb
/-- A text's bytes as a list. -/
theorem sz_mk (l : List UInt8) : (ByteArray.mk l.toArray).size = l.length := by simp [ByteArray.size]
theorem dt_mk (l : List UInt8) : (ByteArray.mk l.toArray).data.toList = l := by simp
theorem mk_dt (s : ByteArray) : ByteArray.mk s.data.toList.toArray = s := by simp
theorem run_ix (l : List UInt8) (j : Nat) (h : j < l.length) (w : World) : (Instr.index 9 (.string ⟨l.toArray⟩) (.int .i64 (j : Int))).run Tryd.prog w = .ok (.int .u8 ((l.getD j 0).toNat : Nat)) w := by
  have hs : (ByteArray.mk l.toArray).size = l.length := sz_mk l
  have h1 : (0 : Int) ≤ (j : Int) ∧ (j : Int) < ((ByteArray.mk l.toArray).size : Int) := by rw [hs]; omega
  rw [run_index_string w 9 _ .i64 j Tryd.underlying9, dif_pos h1]
  have : (l.getD j 0) = ((ByteArray.mk l.toArray)[((j : Int)).toNat]'(by rw [hs]; omega)) := by
    show _ = (ByteArray.mk l.toArray).data[((j : Int)).toNat]'_
    simp [List.getD, h]
  rw [this]
theorem ext_mk (l : List UInt8) (a b : Nat) : (ByteArray.mk l.toArray).extract a b = ⟨((l.take b).drop a).toArray⟩ := by
  rw [ByteArray.extract_mk, List.drop_take]
theorem run_from (l : List UInt8) (j : Nat) (h : j ≤ l.length) (w : World) : (Instr.slice 9 (.string ⟨l.toArray⟩) (some (.int .i64 (j : Int))) none none).run Tryd.prog w = .ok (.string ⟨(l.drop j).toArray⟩) w := by
  rw [run_slice_string_l w 9 _ Tryd.underlying9 .i64 (j : Int) (by omega) (by rw [sz_mk]; omega)]
  rw [ext_mk, sz_mk, List.take_length]; rfl
theorem run_upto (l : List UInt8) (j : Nat) (h : j ≤ l.length) (w : World) : (Instr.slice 9 (.string ⟨l.toArray⟩) none (some (.int .i64 (j : Int))) none).run Tryd.prog w = .ok (.string ⟨(l.take j).toArray⟩) w := by
  rw [run_slice_string_h w 9 _ Tryd.underlying9 .i64 (j : Int) (by omega) (by rw [sz_mk]; omega)]
  rw [ext_mk]; rfl
/-- append of one element, of whatever row of one's own. -/
theorem appG_run {S E z by' : Nat} {zv : Value} (hS : Tryd.prog.underlying S = some (.slice E)) (iE : (Tryd.prog.info? E).map (fun i => (i.zero, i.size, i.bytes)) = some (some zv, z, by')) (hzc : zv.cells.size = z) (hz : 0 < z) (B : Nat) (w : World) (ty : Nat) (v : Value) (n : Nat) (xs ys : List Value) (hown : w.ownsRow B E z v n xs) (hB : B ≤ w.heap.size) (ad : Addr) (c : Nat) (hl : ys.length = z) (hnews : ∀ j u, ys[j]? = some u → w.cell? (ad.add j) = some u) (h1 : ∀ u ∈ ys, u.oneCell' = true) (hn : n + 1 ≤ 4294967296) (hb : by' ≤ 32) :
    ∃ v' w', (Builtin.append_ #[S, S] ty #[v, .slice (some ad) 1 c]).run Tryd.prog w = .ok v' w' ∧ w'.ownsRow B E z v' (n + 1) (xs ++ ys) ∧ w.grownBy w' v.ownBlock := by
  obtain ⟨i0, hi, hz0, hz1, hz2⟩ := info_parts iE
  obtain ⟨v', w', hr, h2, h3, -⟩ := run_append_own (P := Tryd.prog) w B S ty E i0 _ z by' hS hi hz0 hz1 hz2 hzc hz v _ _ hown ad 1 c ys (by rw [hl, Nat.one_mul]) hnews h1 (by simp only [maxLen]; omega) (by
    have : (n + 1) * by' ≤ 4294967296 * 32 := Nat.mul_le_mul hn hb
    omega) hB
  exact ⟨v', w', hr, h2, h3⟩
theorem wpList_appG {S E z by' : Nat} {zv : Value} (hS : Tryd.prog.underlying S = some (.slice E)) (iE : (Tryd.prog.info? E).map (fun i => (i.zero, i.size, i.bytes)) = some (some zv, z, by')) (hzc : zv.cells.size = z) (hz : 0 < z) (hb : by' ≤ 32) (B : Nat) (w : World) {ops : Array Oper} {rest : List Oper} {o : Oper} {a : Act} {Q : Exit → Act → World → Prop} (hgd : o.guard = none) (s x : Operand)
    (hop : o.op = .call { callee := .builtin .append, args := #[s, x], argTypes := #[S, S] }) (n : Nat) (xs ys : List Value) (v : Value) (hs : a.eval s = v) (hown : w.ownsRow B E z v n xs) (hB : B ≤ w.heap.size) (ad : Addr) (c : Nat) (hx : a.eval x = .slice (some ad) 1 c) (hl : ys.length = z)
    (hnews : ∀ j u, ys[j]? = some u → w.cell? (ad.add j) = some u) (h1 : ∀ u ∈ ys, u.oneCell' = true) (hn : n + 1 ≤ 4294967296)
    (hK : ∀ v' w', w'.ownsRow B E z v' (n + 1) (xs ++ ys) → w.grownBy w' v.ownBlock → wpList Tryd.prog ops Q rest (a.put o.dst v') w') :
    wpList Tryd.prog ops Q (o :: rest) a w := by
  refine wpList_plain hgd fun K hK' => ?_
  obtain ⟨v', w', hrun, r1, r2⟩ := appG_run hS iE hzc hz B w o.type v n xs ys hown hB ad c hl hnews h1 hn hb
  unfold Oper.wp
  simp [execOp, hop, resolve, invoke, builtin, hs, hx, hrun, Result.andThen]
  exact hK' _ _ (hK v' w' r1 r2)
theorem own_block {B e s n : Nat} {w : World} {v : Value} {l : List Value} (h : w.ownsRow B e s v n l) {b : Nat} (hb : v.ownBlock = some b) : B ≤ b ∧ ∃ cur, w.heap[b]? = some (.cells cur e (0, 0)) := by
  rcases h.2 with ⟨h1, _⟩ | ⟨g, cap, cur, hv, hg, hh, r⟩
  · rw [h1] at hb; cases hb
  · rw [hv] at hb
    have hb : some g = some b := hb
    simp only [Option.some.injEq] at hb
    subst hb
    exact ⟨hg, cur, hh⟩
theorem own_keep {B e s n : Nat} {w w' : World} {v : Value} {l : List Value} (h : w.ownsRow B e s v n l) (k : Keep w w') : w'.ownsRow B e s v n l := by
  refine ⟨h.1, ?_⟩
  rcases h.2 with h2 | ⟨g, cap, cur, hv, hg, hh, r⟩
  · exact .inl h2
  · exact .inr ⟨g, cap, cur, hv, hg, k.at hh, r⟩
theorem own_nil (E z B : Nat) (w : World) : w.ownsRow B E z (.slice none 0 0) 0 [] := ⟨by simp, .inl ⟨rfl, rfl⟩⟩
theorem keep_grown {W w w' : World} {e s n : Nat} {v : Value} {l : List Value} (k : Keep W w) (h : w.ownsRow W.heap.size e s v n l) (g : w.grownBy w' v.ownBlock) : Keep W w' :=
  Below.grown k g k.le (fun b hb => (own_block h hb).1)
theorem own_len {B e s n : Nat} {w : World} {v : Value} {l : List Value} (h : w.ownsRow B e s v n l) : ∃ a c, v = .slice a n c ∧ n ≤ c := by
  have hl := h.1
  rcases h.2 with ⟨h1, h2⟩ | ⟨g, cap, cur, hv, hg, hh, h1, h2, h3, h4⟩
  · exact ⟨none, 0, by rw [h1, h2], by omega⟩
  · exact ⟨some ⟨g, 0, none⟩, cap, hv, h1⟩
theorem own_cells {B e s n : Nat} {w : World} {v : Value} {l : List Value} (h : w.ownsRow B e s v n l) : ∃ a c, v = .slice a n c ∧ n ≤ c ∧ ∀ j u, l[j]? = some u → ∃ b, a = some ⟨b, 0, none⟩ ∧ w.cell? ⟨b, j, none⟩ = some u := by
  have hl := h.1
  rcases h.2 with ⟨h1, h2⟩ | ⟨g, cap, cur, hv, hg, hh, h1, h2, h3, h4⟩
  · refine ⟨none, 0, by rw [h1, h2], by omega, fun j u hj => ?_⟩
    have h5 := (List.getElem?_eq_some_iff.1 hj).1
    rw [hl, h2] at h5
    omega
  · refine ⟨some ⟨g, 0, none⟩, cap, hv, h1, fun j u hj => ⟨g, rfl, ?_⟩⟩
    have hjl := (List.getElem?_eq_some_iff.1 hj).1
    rw [cell_of_row w g j cur e (0, 0) hh, ← hj, ← h4, List.getElem?_take, if_pos (by rw [hl] at hjl; exact hjl)]
    simp
end Go.Proofs.YtgciimjcdhallaaDoor
