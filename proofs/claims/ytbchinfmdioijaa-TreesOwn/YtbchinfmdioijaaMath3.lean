import Derived.Test.YtbchinfmdioijaaMath
set_option linter.unusedVariables false
set_option linter.unusedSimpArgs false
namespace Go.Proofs.Ytbchinfmdioijaa
/-- Node i lies so many inner nodes below node 0. -/
inductive Lv (t : Sh) : Nat → Nat → Prop
  | zero : Lv t 0 0
  | left {i k : Nat} : Lv t i k → t.K i = true → Lv t (t.A i) (k + 1)
  | right {i k : Nat} : Lv t i k → t.K i = true → Lv t (t.B i) (k + 1)
theorem Lv.rch {t : Sh} {i k : Nat} (h : Lv t i k) : Rch t i := by
  induction h with
  | zero => exact .zero
  | left _ hk ih => exact .left ih hk
  | right _ hk ih => exact .right ih hk
theorem Lv.inv {t : Sh} {j m : Nat} (h : Lv t j m) : (j = 0 ∧ m = 0) ∨ ∃ i k, m = k + 1 ∧ Lv t i k ∧ t.K i = true ∧ (t.A i = j ∨ t.B i = j) := by
  cases h with
  | zero => exact .inl ⟨rfl, rfl⟩
  | left h hk => exact .inr ⟨_, _, rfl, h, hk, .inl rfl⟩
  | right h hk => exact .inr ⟨_, _, rfl, h, hk, .inr rfl⟩
theorem Lv.one {t : Sh} {n : Nat} (ht : Tr t n) : ∀ (m k j : Nat), Lv t j m → Lv t j k → m = k := by
  intro m
  induction m with
  | zero =>
    intro k j h1 h2
    rcases h1.inv with ⟨rfl, _⟩ | ⟨i, q, e, _⟩
    · rcases h2.inv with ⟨_, e⟩ | ⟨i, q, rfl, hl, hk, hc⟩
      · exact e.symm
      · have := ht.z i (hl.rch.lt ht.wi) hk
        rcases hc with h | h
        · exact absurd h this.1
        · exact absurd h this.2
    · cases e
  | succ m ih =>
    intro k j h1 h2
    rcases h1.inv with ⟨_, e⟩ | ⟨i, q, e, hl, hk, hc⟩
    · cases e
    · simp only [Nat.add_right_cancel_iff] at e
      subst e
      have hi := hl.rch.lt ht.wi
      have hz := ht.z i hi hk
      have hj0 : j ≠ 0 := by rcases hc with h | h; exact h ▸ hz.1; exact h ▸ hz.2
      rcases h2.inv with ⟨e, _⟩ | ⟨i2, q2, rfl, hl2, hk2, hc2⟩
      · exact absurd e hj0
      · have := ht.par (Nat.pos_of_ne_zero hj0) (h1.rch.lt ht.wi) hi (hl2.rch.lt ht.wi) hk hk2 hc hc2
        subst this
        rw [ih q2 i hl hl2]
theorem Lv.line {t : Sh} {n i k : Nat} (ht : Tr t n) (h : Lv t i k) : ∃ l : List Nat, l.length = k + 1 ∧ l.Nodup ∧ (∀ x ∈ l, x < n) ∧ ∀ x ∈ l, ∃ q, q ≤ k ∧ Lv t x q := by
  induction h with
  | zero => exact ⟨[0], rfl, by simp, by simpa using ht.wi.1, by intro x hx; simp at hx; subst hx; exact ⟨0, Nat.le_refl _, .zero⟩⟩
  | @left i k h hk ih =>
    obtain ⟨l, h1, h2, h3, h4⟩ := ih
    have hn : Lv t (t.A i) (k + 1) := .left h hk
    refine ⟨t.A i :: l, by simp [h1], ?_, ?_, ?_⟩
    · rw [List.nodup_cons]
      refine ⟨fun hm => ?_, h2⟩
      obtain ⟨q, hq, hl⟩ := h4 _ hm
      have := Lv.one ht _ _ _ hl hn
      omega
    · intro x hx
      rcases List.mem_cons.1 hx with rfl | hx
      · exact hn.rch.lt ht.wi
      · exact h3 x hx
    · intro x hx
      rcases List.mem_cons.1 hx with rfl | hx
      · exact ⟨_, Nat.le_refl _, hn⟩
      · obtain ⟨q, hq, hl⟩ := h4 x hx
        exact ⟨q, by omega, hl⟩
  | @right i k h hk ih =>
    obtain ⟨l, h1, h2, h3, h4⟩ := ih
    have hn : Lv t (t.B i) (k + 1) := .right h hk
    refine ⟨t.B i :: l, by simp [h1], ?_, ?_, ?_⟩
    · rw [List.nodup_cons]
      refine ⟨fun hm => ?_, h2⟩
      obtain ⟨q, hq, hl⟩ := h4 _ hm
      have := Lv.one ht _ _ _ hl hn
      omega
    · intro x hx
      rcases List.mem_cons.1 hx with rfl | hx
      · exact hn.rch.lt ht.wi
      · exact h3 x hx
    · intro x hx
      rcases List.mem_cons.1 hx with rfl | hx
      · exact ⟨_, Nat.le_refl _, hn⟩
      · obtain ⟨q, hq, hl⟩ := h4 x hx
        exact ⟨q, by omega, hl⟩
theorem Lv.lt {t : Sh} {n i k : Nat} (ht : Tr t n) (h : Lv t i k) : k < n := by
  obtain ⟨l, h1, h2, h3, _⟩ := h.line ht
  have := nodup_len h2 h3
  omega
/-- Going down by a choice. -/
def path (t : Sh) (c : Nat → Bool) : Nat → Nat → List Nat
  | 0, i => [i]
  | f + 1, i => if t.K i = true then i :: path t c f (if c i = true then t.A i else t.B i) else [i]
def way (t : Sh) (c : Nat → Bool) (n : Nat) : List Nat := path t c (n - 1) 0
theorem path_ne (t : Sh) (c : Nat → Bool) (f i : Nat) : path t c f i ≠ [] := by
  cases f with
  | zero => simp [path]
  | succ f => rw [path]; split <;> simp
theorem path_leaf {t : Sh} {c : Nat → Bool} {f i : Nat} (h : t.K i = false) : path t c f i = [i] := by
  cases f with
  | zero => rfl
  | succ f => rw [path, if_neg (by rw [h]; simp)]
theorem path_inner {t : Sh} {c : Nat → Bool} {f i : Nat} (h : t.K i = true) : path t c (f + 1) i = i :: path t c f (if c i = true then t.A i else t.B i) := by
  rw [path, if_pos h]
theorem Lv.next {t : Sh} {i k : Nat} (c : Nat → Bool) (h : Lv t i k) (hk : t.K i = true) : Lv t (if c i = true then t.A i else t.B i) (k + 1) := by
  split
  · exact .left h hk
  · exact .right h hk
theorem path_end {t : Sh} {n : Nat} (ht : Tr t n) (c : Nat → Bool) : ∀ (f i k : Nat), Lv t i k → n ≤ f + k + 1 → ∃ e l, path t c f i = l ++ [e] ∧ t.K e = false ∧ Rch t e ∧ (path t c f i).length + k ≤ n
  | 0, i, k, h, hf => by
    have hk := h.lt ht
    cases hK : t.K i
    · exact ⟨i, [], rfl, hK, h.rch, by simp [path]; omega⟩
    · have := (h.next c hK).lt ht; omega
  | f + 1, i, k, h, hf => by
    have hk := h.lt ht
    cases hK : t.K i
    · exact ⟨i, [], path_leaf hK, hK, h.rch, by rw [path_leaf hK]; simp; omega⟩
    · obtain ⟨e, l, h1, h2, h3, h4⟩ := path_end ht c f _ (k + 1) (h.next c hK) (by omega)
      refine ⟨e, i :: l, by rw [path_inner hK, h1]; rfl, h2, h3, ?_⟩
      rw [path_inner hK, List.length_cons]; omega
theorem way_end {t : Sh} {n : Nat} (ht : Tr t n) (c : Nat → Bool) : ∃ e l, way t c n = l ++ [e] ∧ t.K e = false ∧ Rch t e ∧ (way t c n).length ≤ n := by
  obtain ⟨e, l, h1, h2, h3, h4⟩ := path_end ht c (n - 1) 0 0 .zero (by have := ht.wi.1; omega)
  exact ⟨e, l, h1, h2, h3, by unfold way; omega⟩
/-- In a right tree all numbers are met. -/
theorem ord_all {t : Sh} {n i : Nat} (ht : Tr t n) (h : i < n) : i ∈ ord t n := (ord_mem ht.wi i).2 (ht.re i h)
end Go.Proofs.Ytbchinfmdioijaa
namespace Go.Proofs.Ytbchinfmdioijaa
theorem revInd {P : List Nat → Prop} (h0 : P []) (h1 : ∀ p i, P p → P (p ++ [i])) (l : List Nat) : P l := by
  have h : ∀ r : List Nat, P r.reverse := by
    intro r
    induction r with
    | nil => simpa using h0
    | cons x r ih => rw [List.reverse_cons]; exact h1 _ _ ih
  simpa using h l.reverse
/-- Each number that is met stands behind the one that it lies below. -/
theorem go_par {t : Sh} {n : Nat} (ht : Tr t n) : ∀ (f : Nat) (out S : List Nat), Way t n out S → Str t n out S →
    (∀ p i q, out = p ++ i :: q → i = 0 ∨ ∃ j ∈ p, t.K j = true ∧ (t.A j = i ∨ t.B j = i)) → ∀ p i q, go t f out S = p ++ i :: q → i = 0 ∨ ∃ j ∈ p, t.K j = true ∧ (t.A j = i ∨ t.B j = i)
  | 0, out, S, w, s, h => by intro p i q e; rw [go] at e; exact h p i q e
  | f + 1, out, [], w, s, h => by intro p i q e; rw [go] at e; exact h p i q e
  | f + 1, out, x :: S, w, s, h => by
    rw [go, if_neg s.fresh]
    refine go_par ht f _ _ (w.new ht.wi s.fresh) (s.next ht w) ?_
    intro p i q e
    rcases List.append_eq_append_iff.1 e with ⟨c, e1, e2⟩ | ⟨c, e1, e2⟩
    · cases c with
      | nil =>
        simp at e2
        obtain ⟨rfl, rfl⟩ := e2
        simp at e1
        subst e1
        have := s.pa _ (List.mem_append_right _ List.mem_cons_self)
        rcases this with h0 | ⟨j, hj, hk, hc⟩
        · exact .inl h0
        · exact .inr ⟨j, hj, hk, hc⟩
      | cons y c => simp at e2
    · cases c with
      | nil =>
        simp at e2
        obtain ⟨rfl, rfl⟩ := e2
        simp at e1
        subst e1
        have := s.pa _ (List.mem_append_right _ List.mem_cons_self)
        rcases this with h0 | ⟨j, hj, hk, hc⟩
        · exact .inl h0
        · exact .inr ⟨j, hj, hk, hc⟩
      | cons y c =>
        simp at e2
        obtain ⟨rfl, e2⟩ := e2
        exact h p i c e1
theorem ord_par {t : Sh} {n : Nat} (ht : Tr t n) (p : List Nat) (i : Nat) (q : List Nat) (e : ord t n = p ++ i :: q) : i = 0 ∨ ∃ j ∈ p, t.K j = true ∧ (t.A j = i ∨ t.B j = i) :=
  go_par ht _ _ _ (Way.start ht.wi) (Str.start t n) (by intro p i q e; simp at e) p i q e
/-- One step of the program's Depth. -/
def dstep (t : Sh) (X : List Nat × Nat) (i : Nat) : List Nat × Nat :=
  (if t.K i = true then (X.1.set (t.A i) (X.1.getD i 0 + 1)).set (t.B i) (X.1.getD i 0 + 1) else X.1, max X.2 (X.1.getD i 0))
def dfold (t : Sh) (n : Nat) (p : List Nat) : List Nat × Nat := p.foldl (dstep t) (List.replicate n 0, 0)
theorem dfold_app (t : Sh) (n : Nat) (p : List Nat) (i : Nat) : dfold t n (p ++ [i]) = dstep t (dfold t n p) i := by simp [dfold]
theorem dfold_len (t : Sh) (n : Nat) (p : List Nat) : (dfold t n p).1.length = n := by
  induction p using revInd with
  | h0 => simp [dfold]
  | h1 p i ih => rw [dfold_app]; unfold dstep; split <;> simp [ih]
theorem getD_set (l : List Nat) (i j v : Nat) : (l.set i v).getD j 0 = if i = j ∧ j < l.length then v else l.getD j 0 := by
  simp only [List.getD, List.getElem?_set]
  by_cases e : i = j
  · subst e
    by_cases h : i < l.length
    · simp [h]
    · simp [h]
  · simp [e]
theorem dfold_le (t : Sh) (n : Nat) (p : List Nat) : (∀ j, (dfold t n p).1.getD j 0 ≤ p.length) ∧ (dfold t n p).2 ≤ p.length := by
  induction p using revInd with
  | h0 =>
    refine ⟨fun j => ?_, by simp [dfold]⟩
    simp only [dfold, List.foldl_nil, List.getD]
    rw [List.getElem?_replicate]
    split <;> simp
  | h1 p i ih =>
    obtain ⟨h1, h2⟩ := ih
    rw [dfold_app]
    unfold dstep
    refine ⟨fun j => ?_, ?_⟩
    · have hi := h1 i
      have hj := h1 j
      simp only [List.length_append, List.length_singleton]
      split
      · rw [getD_set, getD_set]
        split
        · omega
        · split
          · omega
          · omega
      · omega
    · have hi := h1 i
      simp only [List.length_append, List.length_singleton]
      omega
/-- What the reckoned depths are. -/
structure DI (t : Sh) (n : Nat) (p : List Nat) : Prop where
  x : ∀ j, j < n → (j = 0 ∨ ∃ i ∈ p, t.K i = true ∧ (t.A i = j ∨ t.B i = j)) → Lv t j ((dfold t n p).1.getD j 0)
  up : ∀ i ∈ p, ∀ k, Lv t i k → k ≤ (dfold t n p).2
  at' : (dfold t n p).2 = 0 ∨ ∃ i ∈ p, Lv t i (dfold t n p).2
theorem DI.start {t : Sh} {n : Nat} (ht : Tr t n) : DI t n [] := by
  refine ⟨?_, by simp, .inl (by simp [dfold])⟩
  intro j hj h
  rcases h with rfl | ⟨i, hi, _⟩
  · simp only [dfold, List.foldl_nil, List.getD]
    rw [List.getElem?_replicate, if_pos hj]
    exact .zero
  · simp at hi
theorem DI.next {t : Sh} {n : Nat} (ht : Tr t n) {p : List Nat} {i : Nat} (hi : i < n) (hp : i = 0 ∨ ∃ j ∈ p, t.K j = true ∧ (t.A j = i ∨ t.B j = i)) (h : DI t n p) : DI t n (p ++ [i]) := by
  have hlv := h.x i hi hp
  have hlen := dfold_len t n p
  refine ⟨?_, ?_, ?_⟩
  · intro j hj hc
    rw [dfold_app]
    unfold dstep
    simp only
    by_cases hk : t.K i = true
    · rw [if_pos hk, getD_set, getD_set]
      by_cases e1 : t.B i = j
      · rw [if_pos ⟨e1, by simp [hlen]; exact hj⟩, ← e1]; exact .right hlv hk
      · rw [if_neg (fun q => e1 q.1)]
        by_cases e2 : t.A i = j
        · rw [if_pos ⟨e2, by rw [hlen]; exact hj⟩, ← e2]; exact .left hlv hk
        · rw [if_neg (fun q => e2 q.1)]
          refine h.x j hj ?_
          rcases hc with h0 | ⟨m, hm, hkm, hcm⟩
          · exact .inl h0
          · rcases List.mem_append.1 hm with hm | hm
            · exact .inr ⟨m, hm, hkm, hcm⟩
            · simp at hm
              subst hm
              rcases hcm with q | q
              · exact absurd q e2
              · exact absurd q e1
    · rw [if_neg hk]
      refine h.x j hj ?_
      rcases hc with h0 | ⟨m, hm, hkm, hcm⟩
      · exact .inl h0
      · rcases List.mem_append.1 hm with hm | hm
        · exact .inr ⟨m, hm, hkm, hcm⟩
        · simp at hm
          subst hm
          exact absurd hkm hk
  · intro m hm k hl
    rw [dfold_app]
    unfold dstep
    simp only
    rcases List.mem_append.1 hm with hm | hm
    · have := h.up m hm k hl; omega
    · simp at hm
      subst hm
      have := Lv.one ht _ _ _ hl hlv
      omega
  · rw [dfold_app]
    unfold dstep
    simp only
    by_cases hc : (dfold t n p).1.getD i 0 ≤ (dfold t n p).2
    · rw [Nat.max_eq_left hc]
      rcases h.at' with h0 | ⟨m, hm, hl⟩
      · exact .inl h0
      · exact .inr ⟨m, List.mem_append_left _ hm, hl⟩
    · rw [Nat.max_eq_right (by omega)]
      exact .inr ⟨i, by simp, hlv⟩
/-- The greatest depth of a right tree. -/
def dep (t : Sh) (n : Nat) : Nat := (dfold t n (ord t n)).2
theorem DI.all {t : Sh} {n : Nat} (ht : Tr t n) : ∀ p q, ord t n = p ++ q → DI t n p := by
  intro p
  induction p using revInd with
  | h0 => intro q _; exact .start ht
  | h1 p i ih =>
    intro q e
    have e' : ord t n = p ++ i :: q := by simpa using e
    exact (ih (i :: q) e').next ht (ord_lt ht.wi i (by rw [e']; simp)) (ord_par ht p i q e')
/-- The greatest depth is that of a leaf. -/
theorem dep_leaf {t : Sh} {n R : Nat} (ht : Tr t n) (h1 : ∀ i, i < n → t.K i = false → ∀ k, Lv t i k → k ≤ R) (h2 : R = 0 ∨ ∃ i, i < n ∧ Lv t i R) : dep t n = R := by
  have hD := DI.all ht (ord t n) [] (by simp)
  apply Nat.le_antisymm
  · rcases hD.at' with h0 | ⟨i, hi, hl⟩
    · unfold dep; omega
    · have hin := ord_lt ht.wi i hi
      cases hk : t.K i
      · exact h1 i hin hk _ hl
      · have hc := Lv.left hl hk
        have := hD.up _ (ord_all ht (hc.rch.lt ht.wi)) _ hc
        omega
  · rcases h2 with h0 | ⟨i, hi, hl⟩
    · omega
    · exact hD.up i (ord_all ht hi) _ hl
end Go.Proofs.Ytbchinfmdioijaa
