set_option linter.unusedVariables false
set_option linter.unusedSimpArgs false
namespace Go.Proofs.Ytbchinfmdioijaa
/-- What a list of nodes is to a reader of its shape: which are inner, and the two below each. -/
structure Sh where
  K : Nat → Bool
  A : Nat → Nat
  B : Nat → Nat
/-- Reached from node 0. -/
inductive Rch (t : Sh) : Nat → Prop
  | zero : Rch t 0
  | left {i : Nat} : Rch t i → t.K i = true → Rch t (t.A i)
  | right {i : Nat} : Rch t i → t.K i = true → Rch t (t.B i)
/-- The children lie within. -/
def In (t : Sh) (n : Nat) : Prop := 0 < n ∧ ∀ i, i < n → t.K i = true → t.A i < n ∧ t.B i < n
theorem Rch.lt {t : Sh} {n i : Nat} (h : In t n) (r : Rch t i) : i < n := by
  induction r with
  | zero => exact h.1
  | left _ hk ih => exact (h.2 _ ih hk).1
  | right _ hk ih => exact (h.2 _ ih hk).2
/-- Going through the nodes: what was met, what waits. -/
def go (t : Sh) : Nat → List Nat → List Nat → List Nat
  | 0, out, _ => out
  | _ + 1, out, [] => out
  | f + 1, out, i :: s => if i ∈ out then go t f out s else go t f (out ++ [i]) (if t.K i = true then t.A i :: t.B i :: s else s)
theorem go_nil (t : Sh) (f : Nat) (out : List Nat) : go t f out [] = out := by cases f <;> rfl
/-- The numbers in the order in which they are met. -/
def ord (t : Sh) (n : Nat) : List Nat := go t (3 * n + 1) [] [0]
/-- What holds on the way. -/
structure Way (t : Sh) (n : Nat) (out S : List Nat) : Prop where
  nd : out.Nodup
  lo : ∀ i ∈ out, i < n
  ls : ∀ i ∈ S, i < n
  ro : ∀ i ∈ out, Rch t i
  rs : ∀ i ∈ S, Rch t i
  cl : ∀ i ∈ out, t.K i = true → (t.A i ∈ out ∨ t.A i ∈ S) ∧ (t.B i ∈ out ∨ t.B i ∈ S)
  z : 0 ∈ out ∨ 0 ∈ S
theorem nodup_len {n : Nat} {l : List Nat} (h : l.Nodup) (hl : ∀ i ∈ l, i < n) : l.length ≤ n := by
  have := List.Nodup.length_le_of_subset h (l₂ := List.range n) (fun i hi => List.mem_range.2 (hl i hi))
  simpa using this
theorem Way.start {t : Sh} {n : Nat} (h : In t n) : Way t n [] [0] :=
  ⟨List.nodup_nil, by simp, by simpa using h.1, by simp, by intro i hi; simp at hi; subst hi; exact .zero, by simp, .inr (by simp)⟩
theorem Way.old {t : Sh} {n i : Nat} {out S : List Nat} (w : Way t n out (i :: S)) (hi : i ∈ out) : Way t n out S := by
  refine ⟨w.nd, w.lo, fun j hj => w.ls j (List.mem_cons_of_mem _ hj), w.ro, fun j hj => w.rs j (List.mem_cons_of_mem _ hj), ?_, ?_⟩
  · intro j hj hk
    obtain ⟨h1, h2⟩ := w.cl j hj hk
    refine ⟨?_, ?_⟩
    · rcases h1 with h | h
      · exact .inl h
      · rcases List.mem_cons.1 h with e | e
        · exact .inl (e ▸ hi)
        · exact .inr e
    · rcases h2 with h | h
      · exact .inl h
      · rcases List.mem_cons.1 h with e | e
        · exact .inl (e ▸ hi)
        · exact .inr e
  · rcases w.z with h | h
    · exact .inl h
    · rcases List.mem_cons.1 h with e | e
      · exact .inl (e ▸ hi)
      · exact .inr e
theorem Way.new {t : Sh} {n i : Nat} {out S : List Nat} (ht : In t n) (w : Way t n out (i :: S)) (hi : i ∉ out) : Way t n (out ++ [i]) (if t.K i = true then t.A i :: t.B i :: S else S) := by
  have hin : i < n := w.ls i List.mem_cons_self
  have hri : Rch t i := w.rs i List.mem_cons_self
  refine ⟨?_, ?_, ?_, ?_, ?_, ?_, ?_⟩
  · rw [List.nodup_append]
    refine ⟨w.nd, by simp, ?_⟩
    intro a ha b hb
    simp at hb
    subst hb
    intro e
    subst e
    exact hi ha
  · intro j hj
    rcases List.mem_append.1 hj with h | h
    · exact w.lo j h
    · simp at h; subst h; exact hin
  · intro j hj
    split at hj
    · rename_i hk
      rcases List.mem_cons.1 hj with rfl | hj
      · exact (ht.2 i hin hk).1
      · rcases List.mem_cons.1 hj with rfl | hj
        · exact (ht.2 i hin hk).2
        · exact w.ls j (List.mem_cons_of_mem _ hj)
    · exact w.ls j (List.mem_cons_of_mem _ hj)
  · intro j hj
    rcases List.mem_append.1 hj with h | h
    · exact w.ro j h
    · simp at h; subst h; exact hri
  · intro j hj
    split at hj
    · rename_i hk
      rcases List.mem_cons.1 hj with rfl | hj
      · exact .left hri hk
      · rcases List.mem_cons.1 hj with rfl | hj
        · exact .right hri hk
        · exact w.rs j (List.mem_cons_of_mem _ hj)
    · exact w.rs j (List.mem_cons_of_mem _ hj)
  · have up : ∀ c, (c ∈ out ∨ c ∈ i :: S) → (c ∈ out ++ [i] ∨ c ∈ (if t.K i = true then t.A i :: t.B i :: S else S)) := by
      intro c hc
      rcases hc with h | h
      · exact .inl (List.mem_append_left _ h)
      · rcases List.mem_cons.1 h with rfl | h
        · exact .inl (by simp)
        · right
          split
          · exact List.mem_cons_of_mem _ (List.mem_cons_of_mem _ h)
          · exact h
    intro j hj hk
    rcases List.mem_append.1 hj with h | h
    · obtain ⟨h1, h2⟩ := w.cl j h hk
      exact ⟨up _ h1, up _ h2⟩
    · simp at h
      subst h
      rw [if_pos hk]
      exact ⟨.inr (by simp), .inr (by simp)⟩
  · rcases w.z with h | h
    · exact .inl (List.mem_append_left _ h)
    · rcases List.mem_cons.1 h with e | h
      · exact .inl (by simp [e])
      · right
        split
        · exact List.mem_cons_of_mem _ (List.mem_cons_of_mem _ h)
        · exact h
theorem Way.done {t : Sh} {n : Nat} {out : List Nat} (w : Way t n out []) (i : Nat) : i ∈ out ↔ Rch t i := by
  refine ⟨w.ro i, ?_⟩
  intro h
  induction h with
  | zero => simpa using w.z
  | left _ hk ih => simpa using (w.cl _ ih hk).1
  | right _ hk ih => simpa using (w.cl _ ih hk).2
theorem go_mem {t : Sh} {n : Nat} (ht : In t n) : ∀ (f : Nat) (out S : List Nat), Way t n out S → 3 * (n - out.length) + S.length ≤ f → (∀ i, i ∈ go t f out S ↔ Rch t i) ∧ (go t f out S).Nodup
  | f, out, [], w, _ => by rw [go_nil]; exact ⟨w.done, w.nd⟩
  | 0, out, i :: S, w, h => by simp at h
  | f + 1, out, i :: S, w, h => by
    rw [go]
    by_cases hi : i ∈ out
    · rw [if_pos hi]
      exact go_mem ht f out S (w.old hi) (by simp at h; omega)
    · rw [if_neg hi]
      have w' := w.new ht hi
      have hl := nodup_len w'.nd w'.lo
      rw [List.length_append, List.length_singleton] at hl
      refine go_mem ht f _ _ w' ?_
      rw [List.length_append, List.length_singleton]
      simp only [List.length_cons] at h
      split
      · simp only [List.length_cons]; omega
      · omega
theorem ord_mem {t : Sh} {n : Nat} (ht : In t n) (i : Nat) : i ∈ ord t n ↔ Rch t i := (go_mem ht _ _ _ (Way.start ht) (by simp)).1 i
theorem ord_nodup {t : Sh} {n : Nat} (ht : In t n) : (ord t n).Nodup := (go_mem ht _ _ _ (Way.start ht) (by simp)).2
theorem ord_lt {t : Sh} {n : Nat} (ht : In t n) (i : Nat) (h : i ∈ ord t n) : i < n := ((ord_mem ht i).1 h).lt ht
theorem ord_len {t : Sh} {n : Nat} (ht : In t n) : (ord t n).length ≤ n := nodup_len (ord_nodup ht) (ord_lt ht)
/-- How often a number stands below one of the first m. -/
def cnt (t : Sh) (j : Nat) : Nat → Nat
  | 0 => 0
  | m + 1 => cnt t j m + (if t.K m = true ∧ t.A m = j then 1 else 0) + (if t.K m = true ∧ t.B m = j then 1 else 0)
theorem cnt_mono (t : Sh) (j : Nat) {a b : Nat} (h : a ≤ b) : cnt t j a ≤ cnt t j b := by
  induction h with
  | refl => exact Nat.le_refl _
  | step _ ih => simp only [cnt]; omega
theorem cnt_one {t : Sh} {j i m : Nat} (hi : i < m) (hk : t.K i = true) (hc : t.A i = j ∨ t.B i = j) : cnt t j i + 1 ≤ cnt t j m := by
  have h1 := cnt_mono t j (show i + 1 ≤ m by omega)
  have h2 : cnt t j i + 1 ≤ cnt t j (i + 1) := by
    rw [cnt]
    rcases hc with h | h
    · rw [if_pos ⟨hk, h⟩]; omega
    · rw [if_pos (c := t.K i = true ∧ t.B i = j) ⟨hk, h⟩]; omega
  omega
theorem cnt_two {t : Sh} {j i m : Nat} (hi : i < m) (hk : t.K i = true) (h1 : t.A i = j) (h2 : t.B i = j) : cnt t j i + 2 ≤ cnt t j m := by
  have h3 := cnt_mono t j (show i + 1 ≤ m by omega)
  have h4 : cnt t j i + 2 ≤ cnt t j (i + 1) := by
    rw [cnt, if_pos ⟨hk, h1⟩, if_pos ⟨hk, h2⟩]; omega
  omega
/-- A right tree: each number but 0 is below just one, once, and reached; 0 is below none. -/
structure Tr (t : Sh) (n : Nat) : Prop where
  wi : In t n
  z : ∀ i, i < n → t.K i = true → t.A i ≠ 0 ∧ t.B i ≠ 0
  one : ∀ j, 0 < j → j < n → cnt t j n = 1
  re : ∀ j, j < n → Rch t j
theorem Tr.par {t : Sh} {n i k j : Nat} (h : Tr t n) (hj : 0 < j) (hjn : j < n) (hi : i < n) (hk : k < n) (ki : t.K i = true) (kk : t.K k = true) (h1 : t.A i = j ∨ t.B i = j) (h2 : t.A k = j ∨ t.B k = j) : i = k := by
  have ho := h.one j hj hjn
  rcases Nat.lt_trichotomy i k with h3 | h3 | h3
  · have a := cnt_one h3 ki h1
    have b := cnt_one hk kk h2
    omega
  · exact h3
  · have a := cnt_one h3 kk h2
    have b := cnt_one hi ki h1
    omega
theorem Tr.ab {t : Sh} {n i : Nat} (h : Tr t n) (hi : i < n) (ki : t.K i = true) : t.A i ≠ t.B i := by
  intro e
  have h1 := h.one (t.A i) (by have := (h.z i hi ki).1; omega) (h.wi.2 i hi ki).1
  have h2 := cnt_two (j := t.A i) hi ki rfl e.symm
  omega
/-- In a right tree nothing waits twice. -/
structure Str (t : Sh) (n : Nat) (out S : List Nat) : Prop where
  nd : (out ++ S).Nodup
  pa : ∀ j ∈ out ++ S, j = 0 ∨ ∃ i ∈ out, t.K i = true ∧ (t.A i = j ∨ t.B i = j)
theorem Str.start (t : Sh) (n : Nat) : Str t n [] [0] := ⟨by simp, by simp⟩
theorem Str.fresh {t : Sh} {n i : Nat} {out S : List Nat} (h : Str t n out (i :: S)) : i ∉ out := by
  intro hi
  have := h.nd
  rw [List.nodup_append] at this
  exact this.2.2 i hi i List.mem_cons_self rfl
theorem Str.next {t : Sh} {n i : Nat} {out S : List Nat} (ht : Tr t n) (w : Way t n out (i :: S)) (h : Str t n out (i :: S)) : Str t n (out ++ [i]) (if t.K i = true then t.A i :: t.B i :: S else S) := by
  have hin : i < n := w.ls i List.mem_cons_self
  have hf := h.fresh
  have e1 : (out ++ [i]) ++ S = out ++ i :: S := by simp
  by_cases hk : t.K i = true
  · rw [if_pos hk]
    have hab := ht.ab hin hk
    obtain ⟨ha, hb⟩ := ht.wi.2 i hin hk
    obtain ⟨za, zb⟩ := ht.z i hin hk
    have nw : ∀ j, (t.A i = j ∨ t.B i = j) → j ≠ 0 → j < n → j ∉ out ++ i :: S := by
      intro j hj h0 hn hm
      rcases h.pa j hm with e | ⟨p, hp, kp, cp⟩
      · exact h0 e
      · have := ht.par (by omega) hn (w.lo p hp) hin kp hk cp hj
        subst this
        exact hf hp
    have na := nw _ (.inl rfl) za ha
    have nb := nw _ (.inr rfl) zb hb
    refine ⟨?_, ?_⟩
    · have hnd := h.nd
      rw [← e1] at hnd na nb
      rw [List.nodup_append] at hnd ⊢
      obtain ⟨q1, q2, q3⟩ := hnd
      refine ⟨q1, ?_, ?_⟩
      · rw [List.nodup_cons, List.nodup_cons]
        refine ⟨?_, ?_, q2⟩
        · intro hm
          rcases List.mem_cons.1 hm with e | e
          · exact hab e
          · exact na (List.mem_append_right _ e)
        · intro hm
          exact nb (List.mem_append_right _ hm)
      · intro a hao b hbs
        rcases List.mem_cons.1 hbs with rfl | hbs
        · intro e; subst e; exact na (List.mem_append_left _ hao)
        · rcases List.mem_cons.1 hbs with rfl | hbs
          · intro e; subst e; exact nb (List.mem_append_left _ hao)
          · exact q3 a hao b hbs
    · intro j hj
      rcases List.mem_append.1 hj with h1 | h1
      · rcases h.pa j (by rw [← e1]; exact List.mem_append_left _ h1) with e | ⟨p, hp, q⟩
        · exact .inl e
        · exact .inr ⟨p, List.mem_append_left _ hp, q⟩
      · rcases List.mem_cons.1 h1 with rfl | h1
        · exact .inr ⟨i, by simp, hk, .inl rfl⟩
        · rcases List.mem_cons.1 h1 with rfl | h1
          · exact .inr ⟨i, by simp, hk, .inr rfl⟩
          · rcases h.pa j (by rw [← e1]; exact List.mem_append_right _ h1) with e | ⟨p, hp, q⟩
            · exact .inl e
            · exact .inr ⟨p, List.mem_append_left _ hp, q⟩
  · rw [if_neg hk]
    refine ⟨by rw [e1]; exact h.nd, ?_⟩
    intro j hj
    rw [e1] at hj
    rcases h.pa j hj with e | ⟨p, hp, q⟩
    · exact .inl e
    · exact .inr ⟨p, List.mem_append_left _ hp, q⟩
end Go.Proofs.Ytbchinfmdioijaa
