import Derived.Test.YtpdjpjkieafnbaaGreatDoorProg
set_option linter.unusedVariables false
set_option linter.unusedSimpArgs false
namespace Go.Proofs.YtpdjpjkieafnbaaGreatDoor
theorem dw_head {α : Type} (p : α → Bool) : ∀ (l : List α) (b : α) (r : List α), l.dropWhile p = b :: r → p b = false
  | [], b, r, h => by simp at h
  | x :: l, b, r, h => by
    by_cases q : p x = true
    · rw [List.dropWhile_cons_of_pos q] at h
      exact dw_head p l b r h
    · rw [List.dropWhile_cons_of_neg q] at h
      injection h with h1 h2
      rw [← h1]
      simpa using q
theorem tw_all {α : Type} (p : α → Bool) : ∀ (l : List α), ∀ b ∈ l.takeWhile p, p b = true
  | [], b, h => by simp at h
  | x :: l, b, h => by
    by_cases q : p x = true
    · rw [List.takeWhile_cons_of_pos q] at h
      rcases List.mem_cons.1 h with e | e
      · rw [e]; exact q
      · exact tw_all p l b e
    · rw [List.takeWhile_cons_of_neg q] at h
      cases h
/-- Decimal digits as mathematics: no program. -/
def isD (b : UInt8) : Bool := decide (48 ≤ b.toNat ∧ b.toNat ≤ 57)
def dv (b : UInt8) : Nat := b.toNat - 48
def nat (l : List UInt8) : Nat := l.foldl (fun n b => 10 * n + dv b) 0
def allD (l : List UInt8) : Prop := ∀ b ∈ l, isD b = true
theorem dv_lt {b : UInt8} (h : isD b = true) : dv b ≤ 9 := by
  unfold isD at h
  unfold dv
  have := of_decide_eq_true h
  omega
theorem fold_nat (l : List UInt8) (n : Nat) : l.foldl (fun n b => 10 * n + dv b) n = n * 10 ^ l.length + nat l := by
  induction l generalizing n with
  | nil => simp [nat]
  | cons b l ih =>
    unfold nat
    rw [List.foldl_cons, List.foldl_cons, ih, ih (10 * 0 + dv b), List.length_cons, Nat.pow_succ]
    have e1 : (10 * n + dv b) * 10 ^ l.length = n * (10 ^ l.length * 10) + dv b * 10 ^ l.length := by
      rw [Nat.add_mul, Nat.mul_comm 10 n, Nat.mul_assoc, Nat.mul_comm 10 (10 ^ l.length)]
    rw [e1]
    simp
    omega
theorem nat_cons (b : UInt8) (l : List UInt8) : nat (b :: l) = dv b * 10 ^ l.length + nat l := by
  have := fold_nat l (dv b)
  unfold nat at this ⊢
  rw [List.foldl_cons]
  simpa using this
theorem nat_append (a b : List UInt8) : nat (a ++ b) = nat a * 10 ^ b.length + nat b := by
  have := fold_nat b (nat a)
  unfold nat at this ⊢
  rw [List.foldl_append]
  exact this
theorem nat_lt {l : List UInt8} (h : allD l) : nat l < 10 ^ l.length := by
  induction l with
  | nil => simp [nat]
  | cons b l ih =>
    rw [nat_cons, List.length_cons, Nat.pow_succ]
    have h1 := ih (fun x hx => h x (List.mem_cons_of_mem _ hx))
    have h2 := dv_lt (h b List.mem_cons_self)
    have h3 : dv b * 10 ^ l.length ≤ 9 * 10 ^ l.length := Nat.mul_le_mul_right _ h2
    omega
theorem nat_zeros (k : Nat) : nat (List.replicate k 48) = 0 := by
  induction k with
  | zero => rfl
  | succ k ih => rw [List.replicate_succ, nat_cons, ih]; simp [dv]
theorem allD.app {a b : List UInt8} (ha : allD a) (hb : allD b) : allD (a ++ b) := by
  intro x hx
  rcases List.mem_append.1 hx with q | q
  · exact ha x q
  · exact hb x q
theorem allD.take {a : List UInt8} (ha : allD a) (k : Nat) : allD (a.take k) := fun x hx => ha x (List.mem_of_mem_take hx)
theorem allD.drop {a : List UInt8} (ha : allD a) (k : Nat) : allD (a.drop k) := fun x hx => ha x (List.mem_of_mem_drop hx)
theorem allD.zeros (k : Nat) : allD (List.replicate k 48) := by
  intro x hx
  rw [(List.mem_replicate.1 hx).2]
  decide
theorem allD.while (l : List UInt8) : allD (l.takeWhile isD) := tw_all isD l
/-- Noughts at the front go. -/
def tl0 (l : List UInt8) : List UInt8 := l.dropWhile fun b => b == 48
theorem tl0_nat (l : List UInt8) : nat (tl0 l) = nat l := by
  unfold tl0
  induction l with
  | nil => rfl
  | cons b l ih =>
    by_cases h : b = 48
    · subst h
      rw [List.dropWhile_cons_of_pos (by simp), ih, nat_cons]
      simp [dv]
    · rw [List.dropWhile_cons_of_neg (by simpa using h)]
theorem tl0_allD {l : List UInt8} (h : allD l) : allD (tl0 l) := fun x hx => h x ((List.dropWhile_suffix _).subset hx)
theorem tl0_len (l : List UInt8) : (tl0 l).length ≤ l.length := (List.dropWhile_suffix _).length_le
/-- What is left begins with another digit: so it says much. -/
theorem tl0_ge {l : List UInt8} (h : allD l) (hne : tl0 l ≠ []) : 10 ^ ((tl0 l).length - 1) ≤ nat l := by
  rw [← tl0_nat]
  have hd := tl0_allD h
  match hl : tl0 l, hne with
  | b :: r, _ =>
    rw [hl] at hd
    have hb : b ≠ 48 := by
      intro e
      have : (b == 48) = false := dw_head (fun b : UInt8 => b == 48) l b r hl
      rw [e] at this
      simp at this
    have h1 : 1 ≤ dv b := by
      have := hd b List.mem_cons_self
      unfold isD at this
      have h2 := of_decide_eq_true this
      have h3 : b.toNat ≠ 48 := by
        intro e
        apply hb
        have : (48 : UInt8).toNat = 48 := rfl
        exact UInt8.toNat_inj.1 (by rw [e, this])
      unfold dv
      omega
    rw [nat_cons, List.length_cons]
    have h4 : 1 * 10 ^ r.length ≤ dv b * 10 ^ r.length := Nat.mul_le_mul_right _ h1
    have h5 : r.length + 1 - 1 = r.length := by omega
    rw [h5]
    omega
/-- Noughts at the end go. -/
def tr0 (l : List UInt8) : List UInt8 := (l.reverse.dropWhile fun b => b == 48).reverse
/-- Rounded to the nearest, ties to even. -/
def rup (x y : Nat) : Nat := if y < 2 * (x % y) ∨ 2 * (x % y) = y ∧ x / y % 2 = 1 then x / y + 1 else x / y
def gt5 : List UInt8 → Bool
  | [] => false
  | b :: t => decide (53 < b.toNat) || (decide (b.toNat = 53) && !t.isEmpty)
def eq5 (r : List UInt8) : Bool := decide (r = [53])
/-- How digits and the digits behind them are rounded. -/
def rq (n : Nat) (r : List UInt8) : Nat := if gt5 r = true ∨ eq5 r = true ∧ n % 2 = 1 then n + 1 else n
end Go.Proofs.YtpdjpjkieafnbaaGreatDoor
