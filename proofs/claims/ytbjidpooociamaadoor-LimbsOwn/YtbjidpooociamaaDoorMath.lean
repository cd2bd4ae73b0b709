set_option linter.unusedVariables false
set_option linter.unusedSimpArgs false
namespace Lb

/-- The natural that limbs say, the lowest first. -/
def val : List Nat → Nat
  | [] => 0
  | x :: xs => x + 4294967296 * val xs

def Lim (l : List Nat) : Prop := ∀ x ∈ l, x < 4294967296

/-- How many limbs are left when the needless ones are gone. -/
def nl : List Nat → Nat
  | [] => 0
  | x :: xs => if nl xs = 0 then (if x = 0 then 0 else 1) else nl xs + 1

/-- The last limb is not 0. -/
def Nrm (l : List Nat) : Prop := l.getLastD 1 ≠ 0

theorem nl_le (l : List Nat) : nl l ≤ l.length := by
  induction l with
  | nil => simp [nl]
  | cons x xs ih => simp only [nl, List.length_cons]; split <;> (try split) <;> omega

theorem nl_zero (l : List Nat) : ∀ j, nl l ≤ j → l.getD j 0 = 0 := by
  induction l with
  | nil => intro j _; simp
  | cons x xs ih =>
    intro j hj
    simp only [nl] at hj
    cases j with
    | zero => split at hj <;> (try split at hj) <;> simp_all
    | succ j => 
      rw [List.getD_cons_succ]
      apply ih
      split at hj <;> (try split at hj) <;> omega

theorem nl_top (l : List Nat) (h : 0 < nl l) : l.getD (nl l - 1) 0 ≠ 0 := by
  induction l with
  | nil => simp [nl] at h
  | cons x xs ih =>
    simp only [nl] at h ⊢
    split
    · rename_i h0
      simp only [h0] at h
      split
      · simp_all
      · simpa
    · rename_i h0
      have := ih (by omega)
      rw [show nl xs + 1 - 1 = (nl xs - 1) + 1 from by omega, List.getD_cons_succ]
      exact this

/-- What a loop from the end finds is nl. -/
theorem nl_eq (l : List Nat) (n : Nat) (hz : ∀ j, n ≤ j → l.getD j 0 = 0) (ht : 0 < n → l.getD (n - 1) 0 ≠ 0) : nl l = n := by
  rcases Nat.lt_trichotomy (nl l) n with h | h | h
  · exact absurd (nl_zero l (n - 1) (by omega)) (ht (by omega))
  · exact h
  · exact absurd (hz (nl l - 1) (by omega)) (nl_top l (by omega))

theorem val_append (a b : List Nat) : val (a ++ b) = val a + 4294967296 ^ a.length * val b := by
  induction a with
  | nil => simp [val]
  | cons x xs ih => simp only [List.cons_append, val, ih, List.length_cons, Nat.pow_succ]; rw [Nat.mul_add, ← Nat.mul_assoc, Nat.mul_comm 4294967296 (4294967296 ^ _)]; omega

theorem val_zeros (l : List Nat) (h : ∀ j, l.getD j 0 = 0) : val l = 0 := by
  induction l with
  | nil => rfl
  | cons x xs ih =>
    have h0 := h 0
    have := ih (fun j => by have := h (j + 1); simpa using this)
    simp at h0
    simp [val, this, h0]

theorem val_take_nl (l : List Nat) : val (l.take (nl l)) = val l := by
  have e := val_append (l.take (nl l)) (l.drop (nl l))
  rw [List.take_append_drop] at e
  rw [e, val_zeros (l.drop (nl l))]
  · omega
  · intro j; have := nl_zero l (nl l + j) (by omega); simpa [List.getD] using this

theorem Nrm_take (l : List Nat) : Nrm (l.take (nl l)) := by
  unfold Nrm
  by_cases h : nl l = 0
  · simp [h]
  · have ht := nl_top l (by omega)
    have hle := nl_le l
    have hlen : (l.take (nl l)).length = nl l := by simp; omega
    rw [List.getLastD_eq_getLast?, List.getLast?_eq_getElem?, hlen, List.getElem?_take_of_lt (by omega)]
    rw [List.getD] at ht
    rw [List.getElem?_eq_getElem (by omega)] at ht ⊢
    simpa using ht

theorem Lim_take {l : List Nat} (h : Lim l) (n : Nat) : Lim (l.take n) := fun x hx => h x (List.mem_of_mem_take hx)
theorem Lim_drop {l : List Nat} (h : Lim l) (n : Nat) : Lim (l.drop n) := fun x hx => h x (List.mem_of_mem_drop hx)
theorem Lim_getD {l : List Nat} (h : Lim l) (j : Nat) : l.getD j 0 < 4294967296 := by
  by_cases hj : j < l.length
  · have := h (l[j]) (List.getElem_mem hj); simpa [List.getD, hj] using this
  · simp [List.getD, List.getElem?_eq_none (by omega : l.length ≤ j)]

theorem val_lt {l : List Nat} (h : Lim l) : val l < 4294967296 ^ l.length := by
  induction l with
  | nil => simp [val]
  | cons x xs ih =>
    have h1 : x < 4294967296 := h x (by simp)
    have h2 := ih (fun y hy => h y (by simp [hy]))
    simp only [val, List.length_cons, Nat.pow_succ]
    omega

theorem val_ge {l : List Nat} (hn : Nrm l) (h : l ≠ []) : 4294967296 ^ (l.length - 1) ≤ val l := by
  induction l with
  | nil => exact absurd rfl h
  | cons x xs ih =>
    cases xs with
    | nil => unfold Nrm at hn; simp at hn; simp [val]; omega
    | cons y ys =>
      have h2 := ih (by unfold Nrm at hn ⊢; simpa using hn) (by simp)
      simp only [List.length_cons] at h2 ⊢
      rw [show ys.length + 1 + 1 - 1 = (ys.length + 1 - 1) + 1 from by omega, Nat.pow_succ]
      rw [val]
      omega

/-- Two naturals without needless limbs that say the same are alike. -/
theorem val_inj : ∀ {a b : List Nat}, Lim a → Lim b → Nrm a → Nrm b → val a = val b → a = b := by
  intro a
  induction a with
  | nil =>
    intro b _ _ _ hb e
    cases b with
    | nil => rfl
    | cons y ys =>
      have := val_ge hb (by simp)
      have h1 : 0 < 4294967296 ^ ((y :: ys).length - 1) := Nat.pos_of_ne_zero (by simp)
      simp only [val] at e this; omega
  | cons x xs ih =>
    intro b ha hb na nb e
    cases b with
    | nil =>
      have := val_ge na (by simp)
      have h1 : 0 < 4294967296 ^ ((x :: xs).length - 1) := Nat.pos_of_ne_zero (by simp)
      simp only [val] at e this; omega
    | cons y ys =>
      have hx : x < 4294967296 := ha x (by simp)
      have hy : y < 4294967296 := hb y (by simp)
      simp only [val] at e
      have e1 : x = y := by omega
      have e2 : val xs = val ys := by omega
      have n1 : Nrm xs := by
        unfold Nrm at na ⊢
        cases xs with
        | nil => simp
        | cons z zs => simpa using na
      have n2 : Nrm ys := by
        unfold Nrm at nb ⊢
        cases ys with
        | nil => simp
        | cons z zs => simpa using nb
      rw [e1, ih (fun z hz => ha z (by simp [hz])) (fun z hz => hb z (by simp [hz])) n1 n2 e2]

theorem val_set (l : List Nat) (j x : Nat) (hj : j < l.length) : val (l.set j x) + l.getD j 0 * 4294967296 ^ j = val l + x * 4294967296 ^ j := by
  induction l generalizing j with
  | nil => simp at hj
  | cons y ys ih =>
    cases j with
    | zero => simp [val]; omega
    | succ j =>
      have := ih j (by simpa using hj)
      simp only [List.set_cons_succ, val, List.getD_cons_succ, Nat.pow_succ]
      have e1 : ys.getD j 0 * (4294967296 ^ j * 4294967296) = 4294967296 * (ys.getD j 0 * 4294967296 ^ j) := by rw [← Nat.mul_assoc, Nat.mul_comm]
      have e2 : x * (4294967296 ^ j * 4294967296) = 4294967296 * (x * 4294967296 ^ j) := by rw [← Nat.mul_assoc, Nat.mul_comm]
      rw [e1, e2]
      omega

theorem val_take_succ (l : List Nat) (k : Nat) : val (l.take (k + 1)) = val (l.take k) + l.getD k 0 * 4294967296 ^ k := by
  induction l generalizing k with
  | nil => simp [val]
  | cons y ys ih =>
    cases k with
    | zero => simp [val]
    | succ k =>
      have := ih k
      simp only [List.take_succ_cons, val, List.getD_cons_succ, Nat.pow_succ, this]
      have e1 : ys.getD k 0 * (4294967296 ^ k * 4294967296) = 4294967296 * (ys.getD k 0 * 4294967296 ^ k) := by rw [← Nat.mul_assoc, Nat.mul_comm]
      rw [e1]; omega

theorem Lim_set {l : List Nat} (h : Lim l) (j x : Nat) (hx : x < 4294967296) : Lim (l.set j x) := by
  intro y hy
  rcases List.mem_or_eq_of_mem_set hy with h1 | h1
  · exact h y h1
  · omega
theorem mulX (X a b : Nat) : (a + b) * X = a * X + b * X := Nat.add_mul a b X
theorem addStep (rk : List Nat) (j t x y V : Nat) (hj : j < rk.length) (hx : rk.getD j 0 = x) (hv : val rk + t * 4294967296 ^ j = V) :
    val (rk.set j ((t + (x + y)) % 4294967296)) + ((t + (x + y)) / 4294967296) * 4294967296 ^ (j + 1) = V + y * 4294967296 ^ j := by
  have h1 := val_set rk j ((t + (x + y)) % 4294967296) hj
  rw [hx] at h1
  have h2 : (t + (x + y)) * 4294967296 ^ j = (t + (x + y)) / 4294967296 * 4294967296 ^ (j + 1) + (t + (x + y)) % 4294967296 * 4294967296 ^ j := by
    rw [Nat.pow_succ, Nat.mul_comm (4294967296 ^ j) 4294967296, ← Nat.mul_assoc, ← Nat.add_mul, Nat.div_add_mod']
  rw [Nat.add_mul, Nat.add_mul] at h2
  omega
theorem val_ge_pow {l : List Nat} (_h : Lim l) (j t : Nat) (V : Nat) (hj : l.length ≤ j) (ht : 0 < t) (hv : val l + t * 4294967296 ^ j = V) (hV : V < 4294967296 ^ l.length) : False := by
  have h1 : 4294967296 ^ l.length ≤ 4294967296 ^ j := Nat.pow_le_pow_right (by omega) hj
  have h2 : 4294967296 ^ j ≤ t * 4294967296 ^ j := Nat.le_mul_of_pos_left _ ht
  omega
end Lb
