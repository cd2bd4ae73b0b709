import Derived.Test.YtpdjpjkieafnbaaGreatDoorProg
set_option linter.unusedVariables false
set_option linter.unusedSimpArgs false
namespace Go.Proofs.YtpdjpjkieafnbaaGreatDoor
theorem dw_nil {α : Type} (p : α → Bool) : ∀ l : List α, l.dropWhile p = [] ↔ ∀ b ∈ l, p b = true
  | [] => by simp
  | x :: l => by
    by_cases h : p x = true
    · rw [List.dropWhile_cons_of_pos h, dw_nil p l]
      simp [h]
    · rw [List.dropWhile_cons_of_neg h]
      simp [h]
theorem dw_head {α : Type} (p : α → Bool) : ∀ (l : List α) (b : α) (r : List α), l.dropWhile p = b :: r → p b = false
  | [], b, r, h => by simp at h
  | x :: l, b, r, h => by
    by_cases q : p x = true
    · rw [List.dropWhile_cons_of_pos q] at h
      exact dw_head p l b r h
    · rw [List.dropWhile_cons_of_neg q] at h
      injection h with h1 h2
      rw [← h1]
      simpa using q
theorem tw_all {α : Type} (p : α → Bool) : ∀ (l : List α), ∀ b ∈ l.takeWhile p, p b = true
  | [], b, h => by simp at h
  | x :: l, b, h => by
    by_cases q : p x = true
    · rw [List.takeWhile_cons_of_pos q] at h
      rcases List.mem_cons.1 h with e | e
      · rw [e]; exact q
      · exact tw_all p l b e
    · rw [List.takeWhile_cons_of_neg q] at h
      cases h
/-- Decimal digits as mathematics: no program. -/
def isD (b : UInt8) : Bool := decide (48 ≤ b.toNat ∧ b.toNat ≤ 57)
def dv (b : UInt8) : Nat := b.toNat - 48
def nat (l : List UInt8) : Nat := l.foldl (fun n b => 10 * n + dv b) 0
def allD (l : List UInt8) : Prop := ∀ b ∈ l, isD b = true
theorem dv_lt {b : UInt8} (h : isD b = true) : dv b ≤ 9 := by
  unfold isD at h
  unfold dv
  have := of_decide_eq_true h
  omega
theorem fold_nat (l : List UInt8) (n : Nat) : l.foldl (fun n b => 10 * n + dv b) n = n * 10 ^ l.length + nat l := by
  induction l generalizing n with
  | nil => simp [nat]
  | cons b l ih =>
    unfold nat
    rw [List.foldl_cons, List.foldl_cons, ih, ih (10 * 0 + dv b), List.length_cons, Nat.pow_succ]
    have e1 : (10 * n + dv b) * 10 ^ l.length = n * (10 ^ l.length * 10) + dv b * 10 ^ l.length := by
      rw [Nat.add_mul, Nat.mul_comm 10 n, Nat.mul_assoc, Nat.mul_comm 10 (10 ^ l.length)]
    rw [e1]
    simp
    omega
theorem nat_cons (b : UInt8) (l : List UInt8) : nat (b :: l) = dv b * 10 ^ l.length + nat l := by
  have := fold_nat l (dv b)
  unfold nat at this ⊢
  rw [List.foldl_cons]
  simpa using this
theorem nat_append (a b : List UInt8) : nat (a ++ b) = nat a * 10 ^ b.length + nat b := by
  have := fold_nat b (nat a)
  unfold nat at this ⊢
  rw [List.foldl_append]
  exact this
theorem nat_lt {l : List UInt8} (h : allD l) : nat l < 10 ^ l.length := by
  induction l with
  | nil => simp [nat]
  | cons b l ih =>
    rw [nat_cons, List.length_cons, Nat.pow_succ]
    have h1 := ih (fun x hx => h x (List.mem_cons_of_mem _ hx))
    have h2 := dv_lt (h b List.mem_cons_self)
    have h3 : dv b * 10 ^ l.length ≤ 9 * 10 ^ l.length := Nat.mul_le_mul_right _ h2
    omega
theorem nat_zeros (k : Nat) : nat (List.replicate k 48) = 0 := by
  induction k with
  | zero => rfl
  | succ k ih => rw [List.replicate_succ, nat_cons, ih]; simp [dv]
theorem allD.app {a b : List UInt8} (ha : allD a) (hb : allD b) : allD (a ++ b) := by
  intro x hx
  rcases List.mem_append.1 hx with q | q
  · exact ha x q
  · exact hb x q
theorem allD.take {a : List UInt8} (ha : allD a) (k : Nat) : allD (a.take k) := fun x hx => ha x (List.mem_of_mem_take hx)
theorem allD.drop {a : List UInt8} (ha : allD a) (k : Nat) : allD (a.drop k) := fun x hx => ha x (List.mem_of_mem_drop hx)
theorem allD.zeros (k : Nat) : allD (List.replicate k 48) := by
  intro x hx
  rw [(List.mem_replicate.1 hx).2]
  decide
theorem allD.while (l : List UInt8) : allD (l.takeWhile isD) := tw_all isD l
/-- Noughts at the front go. -/
def tl0 (l : List UInt8) : List UInt8 := l.dropWhile fun b => b == 48
theorem tl0_nat (l : List UInt8) : nat (tl0 l) = nat l := by
  unfold tl0
  induction l with
  | nil => rfl
  | cons b l ih =>
    by_cases h : b = 48
    · subst h
      rw [List.dropWhile_cons_of_pos (by simp), ih, nat_cons]
      simp [dv]
    · rw [List.dropWhile_cons_of_neg (by simpa using h)]
theorem tl0_allD {l : List UInt8} (h : allD l) : allD (tl0 l) := fun x hx => h x ((List.dropWhile_suffix _).subset hx)
theorem tl0_len (l : List UInt8) : (tl0 l).length ≤ l.length := (List.dropWhile_suffix _).length_le
/-- What is left begins with another digit: so it says much. -/
theorem tl0_ge {l : List UInt8} (h : allD l) (hne : tl0 l ≠ []) : 10 ^ ((tl0 l).length - 1) ≤ nat l := by
  rw [← tl0_nat]
  have hd := tl0_allD h
  match hl : tl0 l, hne with
  | b :: r, _ =>
    rw [hl] at hd
    have hb : b ≠ 48 := by
      intro e
      have : (b == 48) = false := dw_head (fun b : UInt8 => b == 48) l b r hl
      rw [e] at this
      simp at this
    have h1 : 1 ≤ dv b := by
      have := hd b List.mem_cons_self
      unfold isD at this
      have h2 := of_decide_eq_true this
      have h3 : b.toNat ≠ 48 := by
        intro e
        apply hb
        have : (48 : UInt8).toNat = 48 := rfl
        exact UInt8.toNat_inj.1 (by rw [e, this])
      unfold dv
      omega
    rw [nat_cons, List.length_cons]
    have h4 : 1 * 10 ^ r.length ≤ dv b * 10 ^ r.length := Nat.mul_le_mul_right _ h1
    have h5 : r.length + 1 - 1 = r.length := by omega
    rw [h5]
    omega
theorem tl0_nil {l : List UInt8} (h : allD l) : tl0 l = [] ↔ nat l = 0 := by
  constructor
  · intro e; rw [← tl0_nat, e]; rfl
  · intro e
    refine Classical.byContradiction fun hne => ?_
    have h1 := tl0_ge h hne
    have h2 : 0 < 10 ^ ((tl0 l).length - 1) := Nat.pow_pos (by omega)
    omega
/-- Noughts at the end go. -/
def tr0 (l : List UInt8) : List UInt8 := (l.reverse.dropWhile fun b => b == 48).reverse
theorem tr0_nil (l : List UInt8) : tr0 l = [] ↔ ∀ b ∈ l, b = 48 := by
  unfold tr0
  rw [List.reverse_eq_nil_iff, dw_nil]
  simp
theorem tr0_cons (b : UInt8) (l : List UInt8) (h : tr0 (b :: l) ≠ []) : tr0 (b :: l) = b :: tr0 l := by
  unfold tr0 at h ⊢
  rw [List.reverse_cons, List.dropWhile_append] at h ⊢
  by_cases q : (l.reverse.dropWhile fun b => b == 48).isEmpty = true
  · rw [if_pos q] at h ⊢
    have q2 : l.reverse.dropWhile (fun b => b == 48) = [] := by simpa using q
    rw [q2]
    by_cases e : b = 48
    · subst e; simp at h
    · rw [List.dropWhile_cons_of_neg (by simpa using e)]
      rfl
  · rw [if_neg q, List.reverse_append]
    rfl
/-- What digits behind a point say of a half: more, just it, less. -/
theorem half_of {b : UInt8} {t : List UInt8} (h : allD (b :: t)) :
    (5 * 10 ^ t.length < nat (b :: t) ↔ (53 < b.toNat ∨ b.toNat = 53 ∧ tr0 t ≠ [])) ∧ (nat (b :: t) = 5 * 10 ^ t.length ↔ b.toNat = 53 ∧ tr0 t = []) := by
  have ht : allD t := fun x hx => h x (List.mem_cons_of_mem _ hx)
  have hb := h b List.mem_cons_self
  unfold isD at hb
  have hb2 := of_decide_eq_true hb
  have hlt := nat_lt ht
  rw [nat_cons]
  have hz : tr0 t = [] ↔ nat t = 0 := by
    rw [tr0_nil, ← tl0_nil ht]
    unfold tl0
    rw [dw_nil]
    simp
  have hdv : dv b = b.toNat - 48 := rfl
  rcases Nat.lt_trichotomy b.toNat 53 with q | q | q
  · have h1 : dv b ≤ 4 := by omega
    have h2 : dv b * 10 ^ t.length ≤ 4 * 10 ^ t.length := Nat.mul_le_mul_right _ h1
    refine ⟨⟨fun _ => by omega, ?_⟩, ⟨fun _ => by omega, ?_⟩⟩
    · rintro (a | ⟨a, -⟩) <;> omega
    · rintro ⟨a, -⟩; omega
  · have h1 : dv b = 5 := by omega
    rw [h1]
    refine ⟨⟨fun a => .inr ⟨q, fun e => by have := hz.1 e; omega⟩, ?_⟩, ⟨fun a => ⟨q, hz.2 (by omega)⟩, ?_⟩⟩
    · rintro (a | ⟨-, a⟩)
      · omega
      · have : nat t ≠ 0 := fun e => a (hz.2 e)
        omega
    · rintro ⟨-, a⟩
      have := hz.1 a
      omega
  · have h1 : 6 ≤ dv b := by omega
    have h2 : 6 * 10 ^ t.length ≤ dv b * 10 ^ t.length := Nat.mul_le_mul_right _ h1
    have h3 : 0 < 10 ^ t.length := Nat.pow_pos (by omega)
    refine ⟨⟨fun _ => .inl q, fun _ => by omega⟩, ⟨fun _ => by omega, ?_⟩⟩
    rintro ⟨a, -⟩; omega
/-- Rounded to the nearest, ties to even. -/
def rup (x y : Nat) : Nat := if y < 2 * (x % y) ∨ 2 * (x % y) = y ∧ x / y % 2 = 1 then x / y + 1 else x / y
def gt5 : List UInt8 → Bool
  | [] => false
  | b :: t => decide (53 < b.toNat) || (decide (b.toNat = 53) && !t.isEmpty)
def eq5 (r : List UInt8) : Bool := decide (r = [53])
/-- How digits and the digits behind them are rounded. -/
def rq (n : Nat) (r : List UInt8) : Nat := if gt5 r = true ∨ eq5 r = true ∧ n % 2 = 1 then n + 1 else n
theorem rq_nil (n : Nat) : rq n [] = n := by unfold rq; simp [gt5, eq5]
theorem rq_rest {A B : List UInt8} (hB : allD B) (hne : B ≠ []) : rq (nat A) (tr0 B) = rup (nat (A ++ B)) (10 ^ B.length) := by
  match B, hne with
  | b :: t, _ =>
    obtain ⟨h1, h2⟩ := half_of hB
    have hlt := nat_lt hB
    have e : (10 : Nat) ^ (b :: t).length = 10 * 10 ^ t.length := by rw [List.length_cons, Nat.pow_succ, Nat.mul_comm]
    have hdiv : nat (A ++ b :: t) / 10 ^ (b :: t).length = nat A := by
      rw [nat_append, Nat.add_comm, Nat.add_mul_div_right _ _ (Nat.pow_pos (by omega)), Nat.div_eq_of_lt hlt]
      omega
    have hmod : nat (A ++ b :: t) % 10 ^ (b :: t).length = nat (b :: t) := by
      rw [nat_append, Nat.add_comm, Nat.add_mul_mod_self_right, Nat.mod_eq_of_lt hlt]
    unfold rup
    rw [hdiv, hmod]
    have hg : gt5 (tr0 (b :: t)) = true ↔ 10 ^ (b :: t).length < 2 * nat (b :: t) := by
      rw [e]
      have : 10 * 10 ^ t.length < 2 * nat (b :: t) ↔ 5 * 10 ^ t.length < nat (b :: t) := by omega
      rw [this, h1]
      by_cases q : tr0 (b :: t) = []
      · rw [q]
        have q2 := (tr0_nil _).1 q
        have q3 := q2 b List.mem_cons_self
        have q4 : tr0 t = [] := (tr0_nil t).2 fun x hx => q2 x (List.mem_cons_of_mem _ hx)
        rw [q3, q4]
        simp [gt5]
      · rw [tr0_cons b t q]
        simp [gt5]
    have he : eq5 (tr0 (b :: t)) = true ↔ 2 * nat (b :: t) = 10 ^ (b :: t).length := by
      rw [e]
      have : 2 * nat (b :: t) = 10 * 10 ^ t.length ↔ nat (b :: t) = 5 * 10 ^ t.length := by omega
      rw [this, h2]
      unfold eq5
      by_cases q : tr0 (b :: t) = []
      · rw [q]
        have q2 := (tr0_nil _).1 q
        have q3 := q2 b List.mem_cons_self
        rw [q3]
        simp
      · rw [tr0_cons b t q]
        simp
        intro _
        constructor
        · intro h3
          have : b.toNat = (53 : UInt8).toNat := by rw [h3]
          exact this
        · intro h3
          exact UInt8.toNat_inj.1 h3
    unfold rq
    simp only [hg, he]
/-- What the digits of a decimal say, the point moved by p to the right. -/
def mv (N : Nat) (p : Int) : Nat := if 0 ≤ p then N * 10 ^ p.toNat else rup N (10 ^ (-p).toNat)
theorem mv_far {ds : List UInt8} {p : Int} (hd : allD ds) (h : (ds.length : Int) + p < 0) : mv (nat ds) p = 0 := by
  unfold mv
  rw [if_neg (by omega)]
  obtain ⟨k, hk⟩ : ∃ k, (-p).toNat = k + 1 := ⟨(-p).toNat - 1, by omega⟩
  rw [hk]
  have h1 := nat_lt hd
  have h2 : (10 : Nat) ^ ds.length ≤ 10 ^ k := Nat.pow_le_pow_right (by omega) (by omega)
  have h3 : (10 : Nat) ^ (k + 1) = 10 * 10 ^ k := by rw [Nat.pow_succ, Nat.mul_comm]
  unfold rup
  rw [h3, Nat.div_eq_of_lt (by omega), Nat.mod_eq_of_lt (by omega), if_neg (by omega)]
theorem mv_in {ds : List UInt8} {p : Int} {T : Nat} (hd : allD ds) (hT : (ds.length : Int) + p = (T : Int)) : rq (nat ((ds ++ List.replicate (T - ds.length) 48).take T)) (tr0 ((ds ++ List.replicate (T - ds.length) 48).drop T)) = mv (nat ds) p := by
  unfold mv
  by_cases hp : 0 ≤ p
  · rw [if_pos hp]
    have hl : (ds ++ List.replicate (T - ds.length) 48).length = T := by simp; omega
    rw [List.take_of_length_le (by omega), List.drop_of_length_le (by omega)]
    have : tr0 [] = [] := rfl
    rw [this, rq_nil, nat_append, nat_zeros, List.length_replicate]
    have : T - ds.length = p.toNat := by omega
    rw [this]
    omega
  · rw [if_neg hp]
    have : T - ds.length = 0 := by omega
    rw [this, List.replicate_zero, List.append_nil]
    have hl : (ds.drop T).length = (-p).toNat := by rw [List.length_drop]; omega
    have hne : ds.drop T ≠ [] := by
      intro e
      rw [e] at hl
      simp at hl
      omega
    have h1 := rq_rest (A := ds.take T) (hd.drop T) hne
    rw [List.take_append_drop, hl] at h1
    exact h1
theorem mv_great {l : List UInt8} {p : Int} (h : allD l) (hne : tl0 l ≠ []) (hT : 19 < ((tl0 l).length : Int) + p) : 10000000000000000000 ≤ mv (nat l) p := by
  have h1 := tl0_ge h hne
  have hL : 1 ≤ (tl0 l).length := List.length_pos_iff.2 hne
  have e19 : (10 : Nat) ^ 19 = 10000000000000000000 := by decide
  rw [← e19]
  unfold mv
  by_cases hp : 0 ≤ p
  · rw [if_pos hp]
    have h2 : (10 : Nat) ^ ((tl0 l).length - 1) * 10 ^ p.toNat ≤ nat l * 10 ^ p.toNat := Nat.mul_le_mul_right _ h1
    rw [← Nat.pow_add] at h2
    have h3 : (10 : Nat) ^ 19 ≤ 10 ^ ((tl0 l).length - 1 + p.toNat) := Nat.pow_le_pow_right (by omega) (by omega)
    omega
  · rw [if_neg hp]
    have h2 : (10 : Nat) ^ 19 * 10 ^ (-p).toNat ≤ nat l := by
      rw [← Nat.pow_add]
      exact Nat.le_trans (Nat.pow_le_pow_right (by omega) (by omega)) h1
    have h3 : 10 ^ 19 ≤ nat l / 10 ^ (-p).toNat := (Nat.le_div_iff_mul_le (Nat.pow_pos (by omega))).2 h2
    have h4 : nat l / 10 ^ (-p).toNat ≤ rup (nat l) (10 ^ (-p).toNat) := by
      unfold rup
      split <;> omega
    omega
end Go.Proofs.YtpdjpjkieafnbaaGreatDoor
