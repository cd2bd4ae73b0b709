import Derived.Test.YtonfjmibnnioiaaDoorM1
set_option linter.unusedVariables false
set_option linter.unusedSimpArgs false
namespace Go.Proofs.YtonfjmibnnioiaaDoor
/-- What a field in quotes says whose first n bytes have said acc. -/
def udF : Nat → List UInt8 → List UInt8 → Nat → (List UInt8) × Nat × Bool
  | 0, _, _, n => ([], n, false)
  | f + 1, l, acc, n =>
    match l with
    | [] => ([], n, false)
    | c :: r =>
      if c = 34 then
        match r with
        | [] => (acc, n + 1, true)
        | d :: r2 => if d = 34 then udF f r2 (acc ++ [34]) (n + 2) else (acc, n + 1, true)
      else udF f r (acc ++ [c]) (n + 1)
theorem udF_more : ∀ (f g : Nat) (l acc : List UInt8) (n : Nat), l.length ≤ f → l.length ≤ g → udF f l acc n = udF g l acc n
  | 0, 0, _, _, _, _, _ => rfl
  | 0, g + 1, l, acc, n, h, _ => by
    have : l = [] := List.eq_nil_of_length_eq_zero (by omega)
    subst this; simp [udF]
  | f + 1, 0, l, acc, n, _, h => by
    have : l = [] := List.eq_nil_of_length_eq_zero (by omega)
    subst this; simp [udF]
  | f + 1, g + 1, l, acc, n, h, h' => by
    cases l with
    | nil => rw [udF.eq_def, udF.eq_def]
    | cons c r =>
      simp only [List.length_cons] at h h'
      rw [udF.eq_def, udF.eq_def]
      simp only []
      split
      · cases r with
        | nil => rfl
        | cons d r2 =>
          simp only [List.length_cons] at h h'
          simp only []
          split
          · exact udF_more f g r2 _ _ (by omega) (by omega)
          · rfl
      · exact udF_more f g r _ _ (by omega) (by omega)
def ud (l acc : List UInt8) (n : Nat) : (List UInt8) × Nat × Bool := udF l.length l acc n
theorem ud_nil (acc : List UInt8) (n : Nat) : ud [] acc n = ([], n, false) := rfl
theorem ud_cons (c : UInt8) (r acc : List UInt8) (n : Nat) (h : c ≠ 34) : ud (c :: r) acc n = ud r (acc ++ [c]) (n + 1) := by
  unfold ud
  rw [List.length_cons, udF.eq_def]
  simp only []
  rw [if_neg h]
theorem ud_end (acc : List UInt8) (n : Nat) : ud [34] acc n = (acc, n + 1, true) := rfl
theorem ud_last (d : UInt8) (r acc : List UInt8) (n : Nat) (h : d ≠ 34) : ud (34 :: d :: r) acc n = (acc, n + 1, true) := by
  unfold ud
  rw [List.length_cons, udF.eq_def]
  simp only []
  rw [if_pos trivial, if_neg h]
theorem ud_two (r acc : List UInt8) (n : Nat) : ud (34 :: 34 :: r) acc n = ud r (acc ++ [34]) (n + 2) := by
  unfold ud
  rw [List.length_cons, udF.eq_def]
  simp only []
  rw [if_pos trivial, if_pos trivial]
  exact udF_more _ _ _ _ _ (by rw [List.length_cons]; omega) (Nat.le_refl _)
/-- Bytes that are no quotes are taken together. -/
theorem ud_run : ∀ (p r acc : List UInt8) (n : Nat), (∀ c ∈ p, c ≠ 34) → ud (p ++ r) acc n = ud r (acc ++ p) (n + p.length)
  | [], r, acc, n, _ => by simp
  | c :: p, r, acc, n, h => by
    rw [List.cons_append, ud_cons c _ _ _ (h c (List.mem_cons_self ..)), ud_run p r _ _ (fun x hx => h x (List.mem_cons_of_mem _ hx)), List.length_cons, List.append_assoc]
    rw [show n + 1 + p.length = n + (p.length + 1) by omega]
    rfl
theorem ud_le : ∀ (k : Nat) (l acc : List UInt8) (n : Nat), l.length ≤ k → (ud l acc n).2.1 ≤ n + l.length ∧ ((ud l acc n).2.2 = true → n + 1 ≤ (ud l acc n).2.1) ∧ (ud l acc n).1.length ≤ acc.length + l.length
  | 0, l, acc, n, h => by
    have : l = [] := List.eq_nil_of_length_eq_zero (by omega)
    subst this; rw [ud_nil]; simp
  | k + 1, l, acc, n, h => by
    cases l with
    | nil => rw [ud_nil]; simp
    | cons c r =>
      simp only [List.length_cons] at h ⊢
      by_cases hc : c = 34
      · subst hc
        cases r with
        | nil => rw [ud_end]; simp
        | cons d r2 =>
          simp only [List.length_cons] at h ⊢
          by_cases hd : d = 34
          · subst hd
            rw [ud_two]
            have ih := ud_le k r2 (acc ++ [34]) (n + 2) (by omega)
            rw [List.length_append, List.length_singleton] at ih
            refine ⟨by omega, fun h => ?_, by omega⟩
            have := ih.2.1 h
            omega
          · rw [ud_last d r2 acc n hd]; simp
      · rw [ud_cons c r acc n hc]
        have ih := ud_le k r (acc ++ [c]) (n + 1) (by omega)
        rw [List.length_append, List.length_singleton] at ih
        refine ⟨by omega, fun h => ?_, by omega⟩
        have := ih.2.1 h
        omega
/-- The first field of a line. -/
def ff (l : List UInt8) (y : UInt8) : (List UInt8) × Nat × Bool :=
  match l with
  | 34 :: r => ud r [] 1
  | l => (l.takeWhile (· ≠ y), (l.takeWhile (· ≠ y)).length, true)
theorem ff_quote (r : List UInt8) (y : UInt8) : ff (34 :: r) y = ud r [] 1 := rfl
theorem ff_plain (l : List UInt8) (y : UInt8) (h : l.head? ≠ some 34) : ff l y = (l.takeWhile (· ≠ y), (l.takeWhile (· ≠ y)).length, true) := by
  unfold ff
  split
  · simp at h
  · rfl
theorem ff_le (l : List UInt8) (y : UInt8) : (ff l y).2.1 ≤ l.length ∧ (ff l y).1.length ≤ l.length := by
  by_cases h : l.head? = some 34
  · cases l with
    | nil => cases h
    | cons c r =>
      simp only [List.head?_cons, Option.some.injEq] at h
      subst h
      rw [ff_quote, List.length_cons]
      have := ud_le r.length r [] 1 (Nat.le_refl _)
      simp only [List.length_nil] at this
      omega
  · rw [ff_plain l y h]
    exact ⟨(List.takeWhile_sublist _).length_le, (List.takeWhile_sublist _).length_le⟩
/-- The fields of a line from a place on, behind acc. -/
def fdF : Nat → Nat → List UInt8 → UInt8 → List (List UInt8) → (List (List UInt8)) × Nat × Nat
  | 0, _, _, _, _ => ([], 0, 0)
  | f + 1, a, l, y, acc =>
    if (ff l y).2.2 = false then ([], 31, a + (ff l y).2.1)
    else match l.drop (ff l y).2.1 with
      | [] => (acc ++ [(ff l y).1], 0, 0)
      | c :: r => if c ≠ y then ([], 31, a + (ff l y).2.1) else fdF f (a + (ff l y).2.1 + 1) r y (acc ++ [(ff l y).1])
theorem fdF_more : ∀ (f g a : Nat) (l : List UInt8) (y : UInt8) (acc : List (List UInt8)), l.length < f → l.length < g → fdF f a l y acc = fdF g a l y acc
  | 0, _, _, _, _, _, h, _ => by omega
  | _ + 1, 0, _, _, _, _, _, h => by omega
  | f + 1, g + 1, a, l, y, acc, h, h' => by
    rw [fdF.eq_def, fdF.eq_def]
    simp only []
    split
    · rfl
    · cases hd : l.drop (ff l y).2.1 with
      | nil => rfl
      | cons c r =>
        have h1 := congrArg List.length hd
        rw [List.length_drop, List.length_cons] at h1
        simp only []
        split
        · rfl
        · exact fdF_more f g _ r y _ (by omega) (by omega)
def fd (a : Nat) (l : List UInt8) (y : UInt8) (acc : List (List UInt8)) : (List (List UInt8)) × Nat × Nat := fdF (l.length + 1) a l y acc
theorem fd_step (a : Nat) (l : List UInt8) (y : UInt8) (acc : List (List UInt8)) : fd a l y acc =
    if (ff l y).2.2 = false then ([], 31, a + (ff l y).2.1)
    else match l.drop (ff l y).2.1 with
      | [] => (acc ++ [(ff l y).1], 0, 0)
      | c :: r => if c ≠ y then ([], 31, a + (ff l y).2.1) else fd (a + (ff l y).2.1 + 1) r y (acc ++ [(ff l y).1]) := by
  unfold fd
  rw [fdF.eq_def]
  simp only []
  split
  · rfl
  · cases hd : l.drop (ff l y).2.1 with
    | nil => rfl
    | cons c r =>
      have h1 := congrArg List.length hd
      rw [List.length_drop, List.length_cons] at h1
      simp only []
      split
      · rfl
      · exact fdF_more _ _ _ r y _ (by omega) (by omega)
/-- A byte of a quoted word. -/
def hxD (n : Nat) : UInt8 := if n < 10 then UInt8.ofNat (48 + n) else UInt8.ofNat (87 + n)
def qc (c : UInt8) : List UInt8 :=
  if c = 34 ∨ c = 92 then [92, c] else if c = 10 then [92, 110] else if c = 9 then [92, 116]
  else if c.toNat < 32 ∨ c = 127 then [92, 120, hxD (c.toNat / 16), hxD (c.toNat % 16)] else [c]
def qt (l : List UInt8) : List UInt8 := 34 :: (l.flatMap qc ++ [34])
theorem qc_le (c : UInt8) : (qc c).length ≤ 4 := by
  unfold qc
  repeat' split
  all_goals simp
theorem qc_len : ∀ l : List UInt8, (l.flatMap qc).length ≤ 4 * l.length
  | [] => Nat.le_refl _
  | c :: r => by
    have := qc_le c
    have := qc_len r
    rw [List.flatMap_cons, List.length_append, List.length_cons]
    omega
end Go.Proofs.YtonfjmibnnioiaaDoor
