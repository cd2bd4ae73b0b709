import Derived.Test.YtonfjmibnnioiaaDoorJ3
set_option linter.unusedVariables false
set_option linter.unusedSimpArgs false
namespace Go.Proofs.YtonfjmibnnioiaaDoor
theorem hx_back : ∀ i < 16, hxV (hxD i) = i := by decide
theorem esc_hex (a b : UInt8) (r : List UInt8) (ha : hxV a ≠ 16) (hb : hxV b ≠ 16) : esc (120 :: a :: b :: r) = (some (UInt8.ofNat (16 * hxV a + hxV b)), 4) := by
  unfold esc
  simp only []
  rw [if_neg (by decide), if_neg (by decide), if_neg (by decide), if_pos trivial, if_neg ha, if_neg hb]
theorem uq_one (c : UInt8) (r acc : List UInt8) (n : Nat) : uq (qc c ++ r) acc n = uq r (acc ++ [c]) (n + (qc c).length) := by
  unfold qc
  by_cases c1 : c = 34 ∨ c = 92
  · rw [if_pos c1]
    show uq (92 :: c :: r) acc n = _
    have he : esc (c :: r) = (some c, 2) := by unfold esc; simp only []; rw [if_pos c1]
    rw [uq_cons, if_neg (by decide), if_pos rfl, he]
    rfl
  · rw [if_neg c1]
    by_cases c2 : c = 10
    · rw [if_pos c2]
      show uq (92 :: 110 :: r) acc n = _
      have he : esc (110 :: r) = (some 10, 2) := by unfold esc; simp only []; rw [if_neg (by decide), if_pos trivial]
      rw [uq_cons, if_neg (by decide), if_pos rfl, he, c2]
      rfl
    · rw [if_neg c2]
      by_cases c3 : c = 9
      · rw [if_pos c3]
        show uq (92 :: 116 :: r) acc n = _
        have he : esc (116 :: r) = (some 9, 2) := by unfold esc; simp only []; rw [if_neg (by decide), if_neg (by decide), if_pos trivial]
        rw [uq_cons, if_neg (by decide), if_pos rfl, he, c3]
        rfl
      · rw [if_neg c3]
        by_cases c4 : c.toNat < 32 ∨ c = 127
        · rw [if_pos c4]
          have hc := UInt8.toNat_lt c
          have h1 := hx_back (c.toNat / 16) (by omega)
          have h2 := hx_back (c.toNat % 16) (by omega)
          show uq (92 :: 120 :: hxD (c.toNat / 16) :: hxD (c.toNat % 16) :: r) acc n = _
          have he := esc_hex (hxD (c.toNat / 16)) (hxD (c.toNat % 16)) r (by omega) (by omega)
          rw [h1, h2, show 16 * (c.toNat / 16) + c.toNat % 16 = c.toNat by omega, UInt8.ofNat_toNat] at he
          rw [uq_cons, if_neg (by decide), if_pos rfl, he]
          rfl
        · rw [if_neg c4]
          show uq (c :: r) acc n = _
          rw [uq_cons, if_neg (fun h => c1 (.inl h)), if_neg (fun h => c1 (.inr h)), if_neg c4]
          rfl
theorem uq_all : ∀ (l r acc : List UInt8) (n : Nat), uq (l.flatMap qc ++ 34 :: r) acc n = (acc ++ l, n + (l.flatMap qc).length + 1, true)
  | [], r, acc, n => by
    show uq (34 :: r) acc n = _
    rw [uq_cons, if_pos rfl]; simp
  | c :: l, r, acc, n => by
    rw [List.flatMap_cons, List.append_assoc, uq_one, uq_all l r (acc ++ [c]), List.append_assoc, List.length_append]
    simp only [List.singleton_append, Nat.add_assoc]
theorem fw_qt (l : List UInt8) : fw (qt l) = .ok 3 l (qt l).length := by
  have hu := uq_all l [] [] 1
  unfold qt
  unfold fw
  simp only []
  have k34 : kd 34 = 8 := by decide
  rw [if_neg (by rw [k34]; decide), if_neg (by rw [k34]; decide), if_neg (by rw [k34]; decide), if_pos k34, hu]
  simp
  omega
/-- A quoted text's words. -/
theorem ws_qt (l : List UInt8) : ws 0 (qt l) [] = if 65536 < l.length then ([], 4, 0) else ([(3, l, 0)], 0, 0) := by
  have hf := fw_qt l
  have e : qt l = 34 :: (l.flatMap qc ++ [34]) := rfl
  rw [e] at hf ⊢
  have k34 : kd 34 = 8 := by decide
  rw [ws_cons, if_neg (by rw [k34]; decide), if_neg (by rw [k34]; decide), hf]
  simp only []
  split
  · rfl
  · rw [List.drop_length, ws_nil]; rfl
theorem ud_dbl : ∀ (f X acc : List UInt8) (n : Nat), X.head? ≠ some 34 → ud (dbl f ++ 34 :: X) acc n = (acc ++ f, n + (dbl f).length + 1, true)
  | [], X, acc, n, h => by
    show ud (34 :: X) acc n = _
    cases X with
    | nil => rw [ud_end]; simp [dbl]
    | cons d r => rw [ud_last d r acc n (fun e => h (by rw [e]; rfl))]; simp [dbl]
  | c :: f, X, acc, n, h => by
    have ih := ud_dbl f X
    have e : dbl (c :: f) = (if c = 34 then [34, 34] else [c]) ++ dbl f := by unfold dbl; rw [List.flatMap_cons]
    rw [e]
    by_cases hc : c = 34
    · rw [if_pos hc]
      show ud (34 :: 34 :: (dbl f ++ 34 :: X)) acc n = _
      rw [ud_two, ih _ _ h, hc]
      simp; omega
    · rw [if_neg hc]
      show ud (c :: (dbl f ++ 34 :: X)) acc n = _
      rw [ud_cons _ _ _ _ hc, ih _ _ h]
      simp; omega
theorem takeW (f X : List UInt8) (y : UInt8) (hy : y ∉ f) (hX : X = [] ∨ ∃ r, X = y :: r) : (f ++ X).takeWhile (· ≠ y) = f := by
  induction f with
  | nil =>
    rcases hX with rfl | ⟨r, rfl⟩
    · rfl
    · simp
  | cons c f ih =>
    have h1 : c ≠ y := fun e => hy (by rw [e]; exact List.mem_cons_self)
    rw [List.cons_append, List.takeWhile_cons, if_pos (by simpa using h1), ih (fun h => hy (List.mem_cons_of_mem _ h))]
theorem ff_ft (f X : List UInt8) (y : UInt8) (h34 : y ≠ 34) (hX : X = [] ∨ ∃ r, X = y :: r) : ff (ft f y ++ X) y = (f, (ft f y).length, true) := by
  have hX34 : X.head? ≠ some 34 := by
    rcases hX with rfl | ⟨r, rfl⟩
    · simp
    · simpa using h34
  by_cases hq : y ∉ f ∧ f.head? ≠ some 34
  · have e : ft f y = f := by unfold ft; rw [if_pos hq]
    rw [e]
    have hh : (f ++ X).head? ≠ some 34 := by
      cases f with
      | nil => exact hX34
      | cons c f => exact hq.2
    rw [ff_plain _ _ hh, takeW f X y hq.1 hX]
  · have e : ft f y = 34 :: (dbl f ++ [34]) := by unfold ft; rw [if_neg hq]
    rw [e]
    show ff (34 :: ((dbl f ++ [34]) ++ X)) y = _
    rw [ff_quote, List.append_assoc]
    show ud (dbl f ++ 34 :: X) [] 1 = _
    rw [ud_dbl f X [] 1 hX34]
    simp; omega
/-- Fields behind the first, each with its sign. -/
def tlJ (y : UInt8) (L : List (List UInt8)) : List UInt8 := L.flatMap fun f => y :: ft f y
theorem tlJ_cases (y : UInt8) (L : List (List UInt8)) : tlJ y L = [] ∨ ∃ r, tlJ y L = y :: r := by
  cases L with
  | nil => exact .inl rfl
  | cons f L => exact .inr ⟨ft f y ++ tlJ y L, by unfold tlJ; rw [List.flatMap_cons]; rfl⟩
theorem fd_join (y : UInt8) (h34 : y ≠ 34) : ∀ (L : List (List UInt8)) (f : List UInt8) (a : Nat) (acc : List (List UInt8)), fd a (ft f y ++ tlJ y L) y acc = (acc ++ f :: L, 0, 0)
  | [], f, a, acc => by
    have hf := ff_ft f (tlJ y []) y h34 (tlJ_cases y [])
    rw [fd_step, hf]
    simp [tlJ]
  | g :: L, f, a, acc => by
    have hf := ff_ft f (tlJ y (g :: L)) y h34 (tlJ_cases y _)
    have e : tlJ y (g :: L) = y :: (ft g y ++ tlJ y L) := by unfold tlJ; rw [List.flatMap_cons]; rfl
    rw [fd_step, hf]
    simp only [Bool.true_eq_false, if_false]
    rw [List.drop_left, e]
    simp only [ne_eq, not_true_eq_false, if_false]
    rw [fd_join y h34 L g, List.append_assoc]
    rfl
theorem jr_some (y : UInt8) : ∀ (L : List (List UInt8)) (acc t : List UInt8), jr y false L acc = some t → t = acc ++ tlJ y L
  | [], acc, t, h => by unfold jr at h; cases h; simp [tlJ]
  | f :: L, acc, t, h => by
    unfold jr at h
    split at h
    · cases h
    · have := jr_some y L _ t h
      rw [this]
      simp [tlJ]
/-- Joined fields are read as they were. -/
theorem back_join (L : List (List UInt8)) (y : UInt8) (h : (jnR L y).2 = 0) : fdR (jnR L y).1 y = (L, 0, 0) := by
  unfold jnR at h ⊢
  unfold fdR
  by_cases h1 : mcB y = false
  · rw [if_pos h1] at h; cases h
  · have h1' : mcB y = true := by simpa using h1
    rw [if_neg h1] at h ⊢
    rw [if_pos h1']
    have h34 : y ≠ 34 := by
      intro e; rw [e] at h1'; exact absurd h1' (by decide)
    cases L with
    | nil => cases h
    | cons f L =>
      rw [if_neg (by simp)] at h ⊢
      unfold jr at h ⊢
      by_cases hf : hasNL f = true
      · rw [if_pos hf] at h; cases h
      · rw [if_neg hf] at h ⊢
        cases hj : jr y false L ([] ++ (if true = true then [] else [y]) ++ ft f y) with
        | none => rw [hj] at h; cases h
        | some t =>
          have := jr_some y L _ t hj
          show fd 0 t y [] = _
          rw [this]
          simpa using fd_join y h34 L f 0 []
end Go.Proofs.YtonfjmibnnioiaaDoor
