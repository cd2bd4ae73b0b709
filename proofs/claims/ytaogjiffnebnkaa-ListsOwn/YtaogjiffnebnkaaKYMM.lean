import Derived.Test.YtaogjiffnebnkaaProg
import Derived.Test.YtaogjiffnebnkaaKYT5
set_option linter.unusedVariables false
set_option linter.unusedSimpArgs false
namespace Go.Proofs.Ytaogjiffnebnkaa.Mk
/-- Node i lies so many inner nodes below node 0. -/
inductive Lv (t : Sh) : Nat → Nat → Prop
  | zero : Lv t 0 0
  | left {i k : Nat} : Lv t i k → t.K i = true → Lv t (t.A i) (k + 1)
  | right {i k : Nat} : Lv t i k → t.K i = true → Lv t (t.B i) (k + 1)
theorem Lv.rch {t : Sh} {i k : Nat} (h : Lv t i k) : Rch t i := by
  induction h with
  | zero => exact .zero
  | left _ hk ih => exact .left ih hk
  | right _ hk ih => exact .right ih hk
theorem Lv.inv {t : Sh} {j m : Nat} (h : Lv t j m) : (j = 0 ∧ m = 0) ∨ ∃ i k, m = k + 1 ∧ Lv t i k ∧ t.K i = true ∧ (t.A i = j ∨ t.B i = j) := by
  cases h with
  | zero => exact .inl ⟨rfl, rfl⟩
  | left h hk => exact .inr ⟨_, _, rfl, h, hk, .inl rfl⟩
  | right h hk => exact .inr ⟨_, _, rfl, h, hk, .inr rfl⟩
theorem Lv.one {t : Sh} {n : Nat} (ht : Tr t n) : ∀ (m k j : Nat), Lv t j m → Lv t j k → m = k := by
  intro m
  induction m with
  | zero =>
    intro k j h1 h2
    rcases h1.inv with ⟨rfl, _⟩ | ⟨i, q, e, _⟩
    · rcases h2.inv with ⟨_, e⟩ | ⟨i, q, rfl, hl, hk, hc⟩
      · exact e.symm
      · have := ht.z i (hl.rch.lt ht.wi) hk
        rcases hc with h | h
        · exact absurd h this.1
        · exact absurd h this.2
    · cases e
  | succ m ih =>
    intro k j h1 h2
    rcases h1.inv with ⟨_, e⟩ | ⟨i, q, e, hl, hk, hc⟩
    · cases e
    · simp only [Nat.add_right_cancel_iff] at e
      subst e
      have hi := hl.rch.lt ht.wi
      have hz := ht.z i hi hk
      have hj0 : j ≠ 0 := by rcases hc with h | h; exact h ▸ hz.1; exact h ▸ hz.2
      rcases h2.inv with ⟨e, _⟩ | ⟨i2, q2, rfl, hl2, hk2, hc2⟩
      · exact absurd e hj0
      · have := ht.par (Nat.pos_of_ne_zero hj0) (h1.rch.lt ht.wi) hi (hl2.rch.lt ht.wi) hk hk2 hc hc2
        subst this
        rw [ih q2 i hl hl2]
theorem Lv.line {t : Sh} {n i k : Nat} (ht : Tr t n) (h : Lv t i k) : ∃ l : List Nat, l.length = k + 1 ∧ l.Nodup ∧ (∀ x ∈ l, x < n) ∧ ∀ x ∈ l, ∃ q, q ≤ k ∧ Lv t x q := by
  induction h with
  | zero => exact ⟨[0], rfl, by simp, by simpa using ht.wi.1, by intro x hx; simp at hx; subst hx; exact ⟨0, Nat.le_refl _, .zero⟩⟩
  | @left i k h hk ih =>
    obtain ⟨l, h1, h2, h3, h4⟩ := ih
    have hn : Lv t (t.A i) (k + 1) := .left h hk
    refine ⟨t.A i :: l, by simp [h1], ?_, ?_, ?_⟩
    · rw [List.nodup_cons]
      refine ⟨fun hm => ?_, h2⟩
      obtain ⟨q, hq, hl⟩ := h4 _ hm
      have := Lv.one ht _ _ _ hl hn
      omega
    · intro x hx
      rcases List.mem_cons.1 hx with rfl | hx
      · exact hn.rch.lt ht.wi
      · exact h3 x hx
    · intro x hx
      rcases List.mem_cons.1 hx with rfl | hx
      · exact ⟨_, Nat.le_refl _, hn⟩
      · obtain ⟨q, hq, hl⟩ := h4 x hx
        exact ⟨q, by omega, hl⟩
  | @right i k h hk ih =>
    obtain ⟨l, h1, h2, h3, h4⟩ := ih
    have hn : Lv t (t.B i) (k + 1) := .right h hk
    refine ⟨t.B i :: l, by simp [h1], ?_, ?_, ?_⟩
    · rw [List.nodup_cons]
      refine ⟨fun hm => ?_, h2⟩
      obtain ⟨q, hq, hl⟩ := h4 _ hm
      have := Lv.one ht _ _ _ hl hn
      omega
    · intro x hx
      rcases List.mem_cons.1 hx with rfl | hx
      · exact hn.rch.lt ht.wi
      · exact h3 x hx
    · intro x hx
      rcases List.mem_cons.1 hx with rfl | hx
      · exact ⟨_, Nat.le_refl _, hn⟩
      · obtain ⟨q, hq, hl⟩ := h4 x hx
        exact ⟨q, by omega, hl⟩
theorem Lv.lt {t : Sh} {n i k : Nat} (ht : Tr t n) (h : Lv t i k) : k < n := by
  obtain ⟨l, h1, h2, h3, _⟩ := h.line ht
  have := nodup_len h2 h3
  omega
theorem Lv.next {t : Sh} {i k : Nat} (c : Nat → Bool) (h : Lv t i k) (hk : t.K i = true) : Lv t (if c i = true then t.A i else t.B i) (k + 1) := by
  split
  · exact .left h hk
  · exact .right h hk
end Go.Proofs.Ytaogjiffnebnkaa.Mk
set_option linter.unusedVariables false
set_option linter.unusedSimpArgs false
namespace Go.Proofs.Ytaogjiffnebnkaa.Mk
theorem revInd {P : List Nat → Prop} (h0 : P []) (h1 : ∀ p i, P p → P (p ++ [i])) (l : List Nat) : P l := by
  have h : ∀ r : List Nat, P r.reverse := by
    intro r
    induction r with
    | nil => simpa using h0
    | cons x r ih => rw [List.reverse_cons]; exact h1 _ _ ih
  simpa using h l.reverse
/-- One step of the program's Depth. -/
def dstep (t : Sh) (X : List Nat × Nat) (i : Nat) : List Nat × Nat :=
  (if t.K i = true then (X.1.set (t.A i) (X.1.getD i 0 + 1)).set (t.B i) (X.1.getD i 0 + 1) else X.1, max X.2 (X.1.getD i 0))
def dfold (t : Sh) (n : Nat) (p : List Nat) : List Nat × Nat := p.foldl (dstep t) (List.replicate n 0, 0)
theorem dfold_app (t : Sh) (n : Nat) (p : List Nat) (i : Nat) : dfold t n (p ++ [i]) = dstep t (dfold t n p) i := by simp [dfold]
theorem dfold_len (t : Sh) (n : Nat) (p : List Nat) : (dfold t n p).1.length = n := by
  induction p using revInd with
  | h0 => simp [dfold]
  | h1 p i ih => rw [dfold_app]; unfold dstep; split <;> simp [ih]
theorem getD_set (l : List Nat) (i j v : Nat) : (l.set i v).getD j 0 = if i = j ∧ j < l.length then v else l.getD j 0 := by
  simp only [List.getD, List.getElem?_set]
  by_cases e : i = j
  · subst e
    by_cases h : i < l.length
    · simp [h]
    · simp [h]
  · simp [e]
/-- What the reckoned depths are. -/
structure DI (t : Sh) (n : Nat) (p : List Nat) : Prop where
  x : ∀ j, j < n → (j = 0 ∨ ∃ i ∈ p, t.K i = true ∧ (t.A i = j ∨ t.B i = j)) → Lv t j ((dfold t n p).1.getD j 0)
  up : ∀ i ∈ p, ∀ k, Lv t i k → k ≤ (dfold t n p).2
  at' : (dfold t n p).2 = 0 ∨ ∃ i ∈ p, Lv t i (dfold t n p).2
theorem DI.start {t : Sh} {n : Nat} (ht : Tr t n) : DI t n [] := by
  refine ⟨?_, by simp, .inl (by simp [dfold])⟩
  intro j hj h
  rcases h with rfl | ⟨i, hi, _⟩
  · simp only [dfold, List.foldl_nil, List.getD]
    rw [List.getElem?_replicate, if_pos hj]
    exact .zero
  · simp at hi
theorem DI.next {t : Sh} {n : Nat} (ht : Tr t n) {p : List Nat} {i : Nat} (hi : i < n) (hp : i = 0 ∨ ∃ j ∈ p, t.K j = true ∧ (t.A j = i ∨ t.B j = i)) (h : DI t n p) : DI t n (p ++ [i]) := by
  have hlv := h.x i hi hp
  have hlen := dfold_len t n p
  refine ⟨?_, ?_, ?_⟩
  · intro j hj hc
    rw [dfold_app]
    unfold dstep
    simp only
    by_cases hk : t.K i = true
    · rw [if_pos hk, getD_set, getD_set]
      by_cases e1 : t.B i = j
      · rw [if_pos ⟨e1, by simp [hlen]; exact hj⟩, ← e1]; exact .right hlv hk
      · rw [if_neg (fun q => e1 q.1)]
        by_cases e2 : t.A i = j
        · rw [if_pos ⟨e2, by rw [hlen]; exact hj⟩, ← e2]; exact .left hlv hk
        · rw [if_neg (fun q => e2 q.1)]
          refine h.x j hj ?_
          rcases hc with h0 | ⟨m, hm, hkm, hcm⟩
          · exact .inl h0
          · rcases List.mem_append.1 hm with hm | hm
            · exact .inr ⟨m, hm, hkm, hcm⟩
            · simp at hm
              subst hm
              rcases hcm with q | q
              · exact absurd q e2
              · exact absurd q e1
    · rw [if_neg hk]
      refine h.x j hj ?_
      rcases hc with h0 | ⟨m, hm, hkm, hcm⟩
      · exact .inl h0
      · rcases List.mem_append.1 hm with hm | hm
        · exact .inr ⟨m, hm, hkm, hcm⟩
        · simp at hm
          subst hm
          exact absurd hkm hk
  · intro m hm k hl
    rw [dfold_app]
    unfold dstep
    simp only
    rcases List.mem_append.1 hm with hm | hm
    · have := h.up m hm k hl; omega
    · simp at hm
      subst hm
      have := Lv.one ht _ _ _ hl hlv
      omega
  · rw [dfold_app]
    unfold dstep
    simp only
    by_cases hc : (dfold t n p).1.getD i 0 ≤ (dfold t n p).2
    · rw [Nat.max_eq_left hc]
      rcases h.at' with h0 | ⟨m, hm, hl⟩
      · exact .inl h0
      · exact .inr ⟨m, List.mem_append_left _ hm, hl⟩
    · rw [Nat.max_eq_right (by omega)]
      exact .inr ⟨i, by simp, hlv⟩
end Go.Proofs.Ytaogjiffnebnkaa.Mk
set_option linter.unusedVariables false
set_option linter.unusedSimpArgs false
namespace Go.Proofs.Ytaogjiffnebnkaa.Mk
/-- A tree, written out. -/
inductive BT where
  | leaf (i : Nat)
  | node (i : Nat) (l r : BT)
/-- What stands below a node, written out. -/
inductive Bt (t : Sh) : BT → Nat → Prop where
  | leaf {i : Nat} (h : t.K i = false) : Bt t (.leaf i) i
  | node {i : Nat} {l r : BT} (h : t.K i = true) (hl : Bt t l (t.A i)) (hr : Bt t r (t.B i)) : Bt t (.node i l r) i
theorem Bt.one {t : Sh} {b c : BT} {i : Nat} (h : Bt t b i) (g : Bt t c i) : b = c := by
  induction h generalizing c with
  | leaf h =>
    cases g with
    | leaf _ => rfl
    | node h2 _ _ => rw [h] at h2; cases h2
  | node h hl hr il ir =>
    cases g with
    | leaf h2 => rw [h] at h2; cases h2
    | node _ gl gr => rw [il gl, ir gr]
theorem bt_ex {t : Sh} {n : Nat} (ht : Tr t n) : ∀ (f i k : Nat), Lv t i k → n ≤ f + k + 1 → ∃ b, Bt t b i
  | 0, i, k, h, hf => by
    cases hK : t.K i
    · exact ⟨.leaf i, .leaf hK⟩
    · have := (h.next (fun _ => true) hK).lt ht; omega
  | f + 1, i, k, h, hf => by
    cases hK : t.K i
    · exact ⟨.leaf i, .leaf hK⟩
    · obtain ⟨l, hl⟩ := bt_ex ht f _ _ (h.left hK) (by omega)
      obtain ⟨r, hr⟩ := bt_ex ht f _ _ (h.right hK) (by omega)
      exact ⟨.node i l r, .node hK hl hr⟩
theorem bt_root {t : Sh} {n : Nat} (ht : Tr t n) : ∃ b, Bt t b 0 := bt_ex ht n 0 0 .zero (by omega)
/-- The nodes in their order; the leaves; the inner nodes. -/
def BT.pre : BT → List Nat
  | .leaf i => [i]
  | .node i l r => i :: (l.pre ++ r.pre)
def BT.lv : BT → List Nat
  | .leaf i => [i]
  | .node _ l r => l.lv ++ r.lv
def BT.nl : BT → Nat
  | .leaf _ => 1
  | .node _ l r => l.nl + r.nl
theorem BT.lv_len (b : BT) : b.lv.length = b.nl := by
  induction b with
  | leaf i => rfl
  | node i l r hl hr => simp [BT.lv, BT.nl, hl, hr]
theorem BT.nl_pos (b : BT) : 0 < b.nl := by
  induction b with
  | leaf i => simp [BT.nl]
  | node i l r hl hr => simp only [BT.nl]; omega
theorem Bt.pre_lv {t : Sh} {b : BT} {i : Nat} (h : Bt t b i) : b.pre.filter (fun j => !t.K j) = b.lv := by
  induction h with
  | leaf h => simp [BT.pre, BT.lv, h]
  | node h hl hr il ir => simp [BT.pre, BT.lv, h, il, ir]
theorem go_bt {t : Sh} {n : Nat} (ht : Tr t n) {b : BT} {i : Nat} (h : Bt t b i) : ∀ (F : Nat) (out S : List Nat), Way t n out (i :: S) → Str t n out (i :: S) →
    go t (F + b.pre.length) out (i :: S) = go t F (out ++ b.pre) S ∧ Way t n (out ++ b.pre) S ∧ Str t n (out ++ b.pre) S := by
  induction h with
  | @leaf i h =>
    intro F out S hw hs
    have hi := hs.fresh
    have w2 := Way.new ht.wi hw hi
    have s2 := hs.next ht hw
    rw [h] at w2 s2
    simp only [Bool.false_eq_true, if_false] at w2 s2
    refine ⟨?_, w2, s2⟩
    simp [BT.pre, go, hi, h]
  | @node i l r h hl hr il ir =>
    intro F out S hw hs
    have hi := hs.fresh
    have w2 := Way.new ht.wi hw hi
    have s2 := hs.next ht hw
    rw [h] at w2 s2
    simp only [if_true] at w2 s2
    obtain ⟨e1, w3, s3⟩ := il (F + r.pre.length) _ _ w2 s2
    obtain ⟨e2, w4, s4⟩ := ir F _ _ w3 s3
    have el : out ++ (BT.node i l r).pre = out ++ [i] ++ l.pre ++ r.pre := by simp [BT.pre]
    refine ⟨?_, by rw [el]; exact w4, by rw [el]; exact s4⟩
    rw [el, ← e2, ← e1]
    have ef : F + (BT.node i l r).pre.length = (F + r.pre.length + l.pre.length) + 1 := by simp [BT.pre]; omega
    rw [ef, go, if_neg hi, if_pos h]
theorem ord_bt {t : Sh} {n : Nat} (ht : Tr t n) {b : BT} (h : Bt t b 0) : ord t n = b.pre := by
  have h0 := go_bt ht h 0 [] [] (Way.start ht.wi) (Str.start t n)
  have hl : b.pre.length ≤ n := by
    have := nodup_len h0.2.1.nd h0.2.1.lo
    simpa using this
  have h1 := (go_bt ht h (3 * n + 1 - b.pre.length) [] [] (Way.start ht.wi) (Str.start t n)).1
  rw [show 3 * n + 1 - b.pre.length + b.pre.length = 3 * n + 1 by omega, go_nil] at h1
  simpa [ord] using h1
/-- Marks: a node, the first leaf below it, where those of its left side end. -/
def BT.mks : BT → Nat → List (Nat × Nat × Nat)
  | .leaf _, _ => []
  | .node i l r, a => (i, a, a + l.nl) :: (l.mks a ++ r.mks (a + l.nl))
end Go.Proofs.Ytaogjiffnebnkaa.Mk
