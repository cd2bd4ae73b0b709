import Derived.Test.YtonfjmibnnioiaaDoorM0
set_option linter.unusedVariables false
set_option linter.unusedSimpArgs false
namespace Go.Proofs.YtonfjmibnnioiaaDoor
/-- The bytes' kinds, as the program's table has them. -/
def kdL : List Nat := [0, 0, 0, 0, 0, 0, 0, 0, 0, 1, 0, 0, 0, 0, 0, 0, 0, 0, 0, 0, 0, 0, 0, 0, 0, 0, 0, 0, 0, 0, 0, 0, 1, 7, 8, 9, 0, 0, 0, 0, 6, 6, 0, 5, 6, 4, 4, 0, 3, 3, 3, 3, 3, 3, 3, 3, 3, 3, 6, 6, 6, 6, 6, 0, 0, 2, 2, 2, 2, 2, 2, 2, 2, 2, 2, 2, 2, 2, 2, 2, 2, 2, 2, 2, 2, 2, 2, 2, 2, 2, 2, 6, 0, 6, 0, 2, 0, 2, 2, 2, 2, 2, 2, 2, 2, 2, 2, 2, 2, 2, 2, 2, 2, 2, 2, 2, 2, 2, 2, 2, 2, 2, 2, 6, 6, 6, 0, 0]
def kdN (c : Nat) : Nat := kdL.getD c 0
def kd (c : UInt8) : Nat := kdN c.toNat
def inNm (k : Nat) : Bool := k == 2 || k == 3 || k == 4
def inNu (k : Nat) : Bool := inNm k || k == 5
/-- A word: its kind, its text; or what is wrong with it; and how many bytes it takes, or where it is wrong. -/
inductive WR where
  | ok (k : Nat) (t : List UInt8) (n : Nat)
  | bad (e : Nat) (n : Nat)
def hxV (c : UInt8) : Nat := if 48 ≤ c.toNat ∧ c.toNat ≤ 57 then c.toNat - 48 else if 97 ≤ c.toNat ∧ c.toNat ≤ 102 then c.toNat - 87 else if 65 ≤ c.toNat ∧ c.toNat ≤ 70 then c.toNat - 55 else 16
/-- What an escape behind a backslash says, and how many bytes it takes with it; or where it can't go on. -/
def esc (r : List UInt8) : (Option UInt8) × Nat :=
  match r with
  | [] => (none, 1)
  | c :: r1 =>
    if c = 34 ∨ c = 92 then (some c, 2)
    else if c = 110 then (some 10, 2)
    else if c = 116 then (some 9, 2)
    else if c = 120 then
      match r1 with
      | [] => (none, 2)
      | a :: r2 => if hxV a = 16 then (none, 2) else
        match r2 with
        | [] => (none, 3)
        | b :: _ => if hxV b = 16 then (none, 3) else (some (UInt8.ofNat (16 * hxV a + hxV b)), 4)
    else (none, 1)
theorem esc_pos (r : List UInt8) : 1 ≤ (esc r).2 := by
  unfold esc
  split
  · exact Nat.le_refl _
  · repeat' split
    all_goals simp
theorem esc_le (r : List UInt8) : (esc r).2 ≤ r.length + 1 := by
  unfold esc
  split
  · exact Nat.le_refl _
  · repeat' split
    all_goals simp_all
    all_goals omega
theorem esc_two (r : List UInt8) (c : UInt8) (h : (esc r).1 = some c) : 2 ≤ (esc r).2 := by
  revert h
  unfold esc
  split
  · intro h; cases h
  · repeat' split
    all_goals simp
/-- What a quoted text says whose first n bytes have said acc. -/
def uqF : Nat → List UInt8 → List UInt8 → Nat → (List UInt8) × Nat × Bool
  | 0, _, _, n => ([], n, false)
  | f + 1, l, acc, n =>
    match l with
    | [] => ([], n, false)
    | c :: r =>
      if c = 34 then (acc, n + 1, true)
      else if c = 92 then
        match (esc r).1 with
        | none => ([], n + (esc r).2, false)
        | some x => uqF f (l.drop (esc r).2) (acc ++ [x]) (n + (esc r).2)
      else if c.toNat < 32 ∨ c = 127 then ([], n, false)
      else uqF f r (acc ++ [c]) (n + 1)
theorem uqF_more : ∀ (f g : Nat) (l acc : List UInt8) (n : Nat), l.length ≤ f → l.length ≤ g → uqF f l acc n = uqF g l acc n
  | 0, 0, _, _, _, _, _ => rfl
  | 0, g + 1, l, acc, n, h, _ => by
    have : l = [] := List.eq_nil_of_length_eq_zero (by omega)
    subst this; simp [uqF]
  | f + 1, 0, l, acc, n, _, h => by
    have : l = [] := List.eq_nil_of_length_eq_zero (by omega)
    subst this; simp [uqF]
  | f + 1, g + 1, l, acc, n, h, h' => by
    cases l with
    | nil => rw [uqF, uqF]
    | cons c r =>
      simp only [List.length_cons] at h h'
      rw [uqF, uqF]
      split
      · rfl
      · split
        · split
          · rfl
          · rename_i x hx
            have := esc_two r x hx
            exact uqF_more f g _ _ _ (by rw [List.length_drop, List.length_cons]; omega) (by rw [List.length_drop, List.length_cons]; omega)
        · split
          · rfl
          · exact uqF_more f g r _ _ (by omega) (by omega)
def uq (l acc : List UInt8) (n : Nat) : (List UInt8) × Nat × Bool := uqF l.length l acc n
theorem uq_nil (acc : List UInt8) (n : Nat) : uq [] acc n = ([], n, false) := rfl
theorem uq_cons (c : UInt8) (r acc : List UInt8) (n : Nat) : uq (c :: r) acc n = if c = 34 then (acc, n + 1, true)
      else if c = 92 then
        match (esc r).1 with
        | none => ([], n + (esc r).2, false)
        | some x => uq ((c :: r).drop (esc r).2) (acc ++ [x]) (n + (esc r).2)
      else if c.toNat < 32 ∨ c = 127 then ([], n, false)
      else uq r (acc ++ [c]) (n + 1) := by
  unfold uq
  rw [List.length_cons, uqF]
  split
  · rfl
  · split
    · split
      · rfl
      · rename_i x hx
        have := esc_two r x hx
        exact uqF_more _ _ _ _ _ (by rw [List.length_drop, List.length_cons]; omega) (Nat.le_refl _)
    · split
      · rfl
      · rfl
theorem uq_le : ∀ (k : Nat) (l acc : List UInt8) (n : Nat), l.length ≤ k → (uq l acc n).2.1 ≤ n + l.length ∧ ((uq l acc n).2.2 = true → n + 1 ≤ (uq l acc n).2.1) ∧ (uq l acc n).1.length ≤ acc.length + l.length
  | 0, l, acc, n, h => by
    have : l = [] := List.eq_nil_of_length_eq_zero (by omega)
    subst this; rw [uq_nil]; simp
  | k + 1, l, acc, n, h => by
    cases l with
    | nil => rw [uq_nil]; simp
    | cons c r =>
      rw [uq_cons]
      simp only [List.length_cons] at h ⊢
      split
      · simp
      · split
        · split
          · have := esc_le r
            exact ⟨by simp only []; omega, fun h => (by cases h), (by simp)⟩
          · rename_i x hx
            have h1 := esc_two r x hx
            have h2 := esc_le r
            have ih := uq_le k ((c :: r).drop (esc r).2) (acc ++ [x]) (n + (esc r).2) (by rw [List.length_drop, List.length_cons]; omega)
            rw [List.length_drop, List.length_cons, List.length_append, List.length_singleton] at ih
            refine ⟨by omega, fun h => ?_, by omega⟩
            have := ih.2.1 h
            omega
        · split
          · exact ⟨by simp only []; omega, fun h => (by cases h), (by simp)⟩
          · have ih := uq_le k r (acc ++ [c]) (n + 1) (by omega)
            rw [List.length_append, List.length_singleton] at ih
            refine ⟨by omega, fun h => ?_, by omega⟩
            have := ih.2.1 h
            omega
/-- The first word of a text. -/
def fw (l : List UInt8) : WR :=
  match l with
  | [] => .bad 30 0
  | c :: r =>
    if kd c = 2 then .ok 1 (l.takeWhile fun x => inNm (kd x)) (l.takeWhile fun x => inNm (kd x)).length
    else if kd c = 3 ∨ kd c = 4 ∨ kd c = 5 then .ok 2 (l.takeWhile fun x => inNu (kd x)) (l.takeWhile fun x => inNu (kd x)).length
    else if kd c = 6 ∨ kd c = 7 then
      if (c = 60 ∨ c = 62 ∨ c = 33) ∧ r.head? = some 61 then .ok 4 (l.take 2) 2
      else if kd c = 7 then .bad 30 0 else .ok 4 [c] 1
    else if kd c = 8 then
      match uq r [] 1 with
      | (t, n, true) => .ok 3 t n
      | (_, n, false) => .bad 31 n
    else .bad 30 0
theorem fw_ok (l : List UInt8) (k : Nat) (t : List UInt8) (n : Nat) (h : fw l = .ok k t n) : 1 ≤ n ∧ n ≤ l.length ∧ t.length ≤ l.length ∧ k < 256 := by
  unfold fw at h
  cases l with
  | nil => cases h
  | cons c r =>
    simp only [] at h
    split at h
    · rename_i h1
      cases h
      have h2 : inNm (kd c) = true := by rw [h1]; rfl
      refine ⟨?_, (List.takeWhile_sublist _).length_le, (List.takeWhile_sublist _).length_le, by omega⟩
      rw [List.takeWhile_cons, if_pos h2, List.length_cons]; omega
    · split at h
      · rename_i h1
        cases h
        have h2 : inNu (kd c) = true := by rcases h1 with h1 | h1 | h1 <;> (rw [h1]; rfl)
        refine ⟨?_, (List.takeWhile_sublist _).length_le, (List.takeWhile_sublist _).length_le, by omega⟩
        rw [List.takeWhile_cons, if_pos h2, List.length_cons]; omega
      · split at h
        · split at h
          · rename_i h1
            cases h
            cases r with
            | nil => simp at h1
            | cons x y => simp
          · split at h
            · cases h
            · cases h; simp
        · split at h
          · have hu := uq_le r.length r [] 1 (Nat.le_refl _)
            split at h
            · rename_i t' n' hq
              cases h
              rw [hq] at hu
              simp only [List.length_cons, List.length_nil] at hu ⊢
              have := hu.2.1 trivial
              exact ⟨by omega, by omega, by omega, by omega⟩
            · cases h
          · cases h
/-- The words of a line from a place on, behind acc. -/
abbrev Wd := Nat × List UInt8 × Nat
def wsF : Nat → Nat → List UInt8 → List Wd → (List Wd) × Nat × Nat
  | 0, _, _, acc => (acc, 0, 0)
  | f + 1, a, l, acc =>
    match l with
    | [] => (acc, 0, 0)
    | c :: r =>
      if kd c = 1 then wsF f (a + 1) r acc
      else if kd c = 9 then (acc, 0, 0)
      else match fw l with
        | .bad e n => ([], e, a + n)
        | .ok k t n => if 65536 < t.length then ([], 4, a) else wsF f (a + n) (l.drop n) (acc ++ [(k, t, a)])
theorem wsF_more : ∀ (f g a : Nat) (l : List UInt8) (acc : List Wd), l.length ≤ f → l.length ≤ g → wsF f a l acc = wsF g a l acc
  | 0, 0, _, _, _, _, _ => rfl
  | 0, g + 1, a, l, acc, h, _ => by
    have : l = [] := List.eq_nil_of_length_eq_zero (by omega)
    subst this; simp [wsF]
  | f + 1, 0, a, l, acc, _, h => by
    have : l = [] := List.eq_nil_of_length_eq_zero (by omega)
    subst this; simp [wsF]
  | f + 1, g + 1, a, l, acc, h, h' => by
    cases l with
    | nil => rw [wsF, wsF]
    | cons c r =>
      simp only [List.length_cons] at h h'
      rw [wsF, wsF]
      split
      · exact wsF_more f g _ r _ (by omega) (by omega)
      · split
        · rfl
        · split
          · rfl
          · rename_i k t n hf
            have h1 := fw_ok _ _ _ _ hf
            split
            · rfl
            · exact wsF_more f g _ _ _ (by rw [List.length_drop, List.length_cons]; omega) (by rw [List.length_drop, List.length_cons]; omega)
def ws (a : Nat) (l : List UInt8) (acc : List Wd) : (List Wd) × Nat × Nat := wsF l.length a l acc
theorem ws_nil (a : Nat) (acc : List Wd) : ws a [] acc = (acc, 0, 0) := rfl
theorem ws_cons (a : Nat) (c : UInt8) (r : List UInt8) (acc : List Wd) : ws a (c :: r) acc = if kd c = 1 then ws (a + 1) r acc
      else if kd c = 9 then (acc, 0, 0)
      else match fw (c :: r) with
        | .bad e n => ([], e, a + n)
        | .ok k t n => if 65536 < t.length then ([], 4, a) else ws (a + n) ((c :: r).drop n) (acc ++ [(k, t, a)]) := by
  unfold ws
  rw [List.length_cons, wsF]
  split
  · rfl
  · split
    · rfl
    · split
      · rfl
      · rename_i k t n hf
        have h1 := fw_ok _ _ _ _ hf
        split
        · rfl
        · exact wsF_more _ _ _ _ _ (by rw [List.length_drop, List.length_cons]; omega) (Nat.le_refl _)
end Go.Proofs.YtonfjmibnnioiaaDoor
