import Derived.Test.YtbchinfmdioijaaMath
set_option linter.unusedVariables false
set_option linter.unusedSimpArgs false
namespace Go.Proofs.Ytbchinfmdioijaa
/-- Node i lies so many inner nodes below node 0. -/
inductive Lv (t : Sh) : Nat → Nat → Prop
  | zero : Lv t 0 0
  | left {i k : Nat} : Lv t i k → t.K i = true → Lv t (t.A i) (k + 1)
  | right {i k : Nat} : Lv t i k → t.K i = true → Lv t (t.B i) (k + 1)
theorem Lv.rch {t : Sh} {i k : Nat} (h : Lv t i k) : Rch t i := by
  induction h with
  | zero => exact .zero
  | left _ hk ih => exact .left ih hk
  | right _ hk ih => exact .right ih hk
theorem Lv.inv {t : Sh} {j m : Nat} (h : Lv t j m) : (j = 0 ∧ m = 0) ∨ ∃ i k, m = k + 1 ∧ Lv t i k ∧ t.K i = true ∧ (t.A i = j ∨ t.B i = j) := by
  cases h with
  | zero => exact .inl ⟨rfl, rfl⟩
  | left h hk => exact .inr ⟨_, _, rfl, h, hk, .inl rfl⟩
  | right h hk => exact .inr ⟨_, _, rfl, h, hk, .inr rfl⟩
theorem Lv.one {t : Sh} {n : Nat} (ht : Tr t n) : ∀ (m k j : Nat), Lv t j m → Lv t j k → m = k := by
  intro m
  induction m with
  | zero =>
    intro k j h1 h2
    rcases h1.inv with ⟨rfl, _⟩ | ⟨i, q, e, _⟩
    · rcases h2.inv with ⟨_, e⟩ | ⟨i, q, rfl, hl, hk, hc⟩
      · exact e.symm
      · have := ht.z i (hl.rch.lt ht.wi) hk
        rcases hc with h | h
        · exact absurd h this.1
        · exact absurd h this.2
    · cases e
  | succ m ih =>
    intro k j h1 h2
    rcases h1.inv with ⟨_, e⟩ | ⟨i, q, e, hl, hk, hc⟩
    · cases e
    · simp only [Nat.add_right_cancel_iff] at e
      subst e
      have hi := hl.rch.lt ht.wi
      have hz := ht.z i hi hk
      have hj0 : j ≠ 0 := by rcases hc with h | h; exact h ▸ hz.1; exact h ▸ hz.2
      rcases h2.inv with ⟨e, _⟩ | ⟨i2, q2, rfl, hl2, hk2, hc2⟩
      · exact absurd e hj0
      · have := ht.par (Nat.pos_of_ne_zero hj0) (h1.rch.lt ht.wi) hi (hl2.rch.lt ht.wi) hk hk2 hc hc2
        subst this
        rw [ih q2 i hl hl2]
theorem Lv.line {t : Sh} {n i k : Nat} (ht : Tr t n) (h : Lv t i k) : ∃ l : List Nat, l.length = k + 1 ∧ l.Nodup ∧ (∀ x ∈ l, x < n) ∧ ∀ x ∈ l, ∃ q, q ≤ k ∧ Lv t x q := by
  induction h with
  | zero => exact ⟨[0], rfl, by simp, by simpa using ht.wi.1, by intro x hx; simp at hx; subst hx; exact ⟨0, Nat.le_refl _, .zero⟩⟩
  | @left i k h hk ih =>
    obtain ⟨l, h1, h2, h3, h4⟩ := ih
    have hn : Lv t (t.A i) (k + 1) := .left h hk
    refine ⟨t.A i :: l, by simp [h1], ?_, ?_, ?_⟩
    · rw [List.nodup_cons]
      refine ⟨fun hm => ?_, h2⟩
      obtain ⟨q, hq, hl⟩ := h4 _ hm
      have := Lv.one ht _ _ _ hl hn
      omega
    · intro x hx
      rcases List.mem_cons.1 hx with rfl | hx
      · exact hn.rch.lt ht.wi
      · exact h3 x hx
    · intro x hx
      rcases List.mem_cons.1 hx with rfl | hx
      · exact ⟨_, Nat.le_refl _, hn⟩
      · obtain ⟨q, hq, hl⟩ := h4 x hx
        exact ⟨q, by omega, hl⟩
  | @right i k h hk ih =>
    obtain ⟨l, h1, h2, h3, h4⟩ := ih
    have hn : Lv t (t.B i) (k + 1) := .right h hk
    refine ⟨t.B i :: l, by simp [h1], ?_, ?_, ?_⟩
    · rw [List.nodup_cons]
      refine ⟨fun hm => ?_, h2⟩
      obtain ⟨q, hq, hl⟩ := h4 _ hm
      have := Lv.one ht _ _ _ hl hn
      omega
    · intro x hx
      rcases List.mem_cons.1 hx with rfl | hx
      · exact hn.rch.lt ht.wi
      · exact h3 x hx
    · intro x hx
      rcases List.mem_cons.1 hx with rfl | hx
      · exact ⟨_, Nat.le_refl _, hn⟩
      · obtain ⟨q, hq, hl⟩ := h4 x hx
        exact ⟨q, by omega, hl⟩
theorem Lv.lt {t : Sh} {n i k : Nat} (ht : Tr t n) (h : Lv t i k) : k < n := by
  obtain ⟨l, h1, h2, h3, _⟩ := h.line ht
  have := nodup_len h2 h3
  omega
/-- Going down by a choice. -/
def path (t : Sh) (c : Nat → Bool) : Nat → Nat → List Nat
  | 0, i => [i]
  | f + 1, i => if t.K i = true then i :: path t c f (if c i = true then t.A i else t.B i) else [i]
def way (t : Sh) (c : Nat → Bool) (n : Nat) : List Nat := path t c (n - 1) 0
theorem path_ne (t : Sh) (c : Nat → Bool) (f i : Nat) : path t c f i ≠ [] := by
  cases f with
  | zero => simp [path]
  | succ f => rw [path]; split <;> simp
theorem path_leaf {t : Sh} {c : Nat → Bool} {f i : Nat} (h : t.K i = false) : path t c f i = [i] := by
  cases f with
  | zero => rfl
  | succ f => rw [path, if_neg (by rw [h]; simp)]
theorem path_inner {t : Sh} {c : Nat → Bool} {f i : Nat} (h : t.K i = true) : path t c (f + 1) i = i :: path t c f (if c i = true then t.A i else t.B i) := by
  rw [path, if_pos h]
theorem Lv.next {t : Sh} {i k : Nat} (c : Nat → Bool) (h : Lv t i k) (hk : t.K i = true) : Lv t (if c i = true then t.A i else t.B i) (k + 1) := by
  split
  · exact .left h hk
  · exact .right h hk
theorem path_end {t : Sh} {n : Nat} (ht : Tr t n) (c : Nat → Bool) : ∀ (f i k : Nat), Lv t i k → n ≤ f + k + 1 → ∃ e l, path t c f i = l ++ [e] ∧ t.K e = false ∧ Rch t e ∧ (path t c f i).length + k ≤ n
  | 0, i, k, h, hf => by
    have hk := h.lt ht
    cases hK : t.K i
    · exact ⟨i, [], rfl, hK, h.rch, by simp [path]; omega⟩
    · have := (h.next c hK).lt ht; omega
  | f + 1, i, k, h, hf => by
    have hk := h.lt ht
    cases hK : t.K i
    · exact ⟨i, [], path_leaf hK, hK, h.rch, by rw [path_leaf hK]; simp; omega⟩
    · obtain ⟨e, l, h1, h2, h3, h4⟩ := path_end ht c f _ (k + 1) (h.next c hK) (by omega)
      refine ⟨e, i :: l, by rw [path_inner hK, h1]; rfl, h2, h3, ?_⟩
      rw [path_inner hK, List.length_cons]; omega
theorem way_end {t : Sh} {n : Nat} (ht : Tr t n) (c : Nat → Bool) : ∃ e l, way t c n = l ++ [e] ∧ t.K e = false ∧ Rch t e ∧ (way t c n).length ≤ n := by
  obtain ⟨e, l, h1, h2, h3, h4⟩ := path_end ht c (n - 1) 0 0 .zero (by have := ht.wi.1; omega)
  exact ⟨e, l, h1, h2, h3, by unfold way; omega⟩
/-- In a right tree all numbers are met. -/
theorem ord_all {t : Sh} {n i : Nat} (ht : Tr t n) (h : i < n) : i ∈ ord t n := (ord_mem ht.wi i).2 (ht.re i h)
end Go.Proofs.Ytbchinfmdioijaa
