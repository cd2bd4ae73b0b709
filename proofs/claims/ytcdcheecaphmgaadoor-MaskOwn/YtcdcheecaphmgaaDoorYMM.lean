import Derived.Test.YtcdcheecaphmgaaDoorProg
import Derived.Test.YtcdcheecaphmgaaDoorYX4
set_option linter.unusedVariables false
set_option linter.unusedSimpArgs false
namespace Go.Proofs.YtcdcheecaphmgaaDoor
/-- A tree, written out. -/
inductive BT where
  | leaf (i : Nat)
  | node (i : Nat) (l r : BT)
/-- What stands below a node, written out. -/
inductive Bt (t : Sh) : BT → Nat → Prop where
  | leaf {i : Nat} (h : t.K i = false) : Bt t (.leaf i) i
  | node {i : Nat} {l r : BT} (h : t.K i = true) (hl : Bt t l (t.A i)) (hr : Bt t r (t.B i)) : Bt t (.node i l r) i
theorem Bt.one {t : Sh} {b c : BT} {i : Nat} (h : Bt t b i) (g : Bt t c i) : b = c := by
  induction h generalizing c with
  | leaf h =>
    cases g with
    | leaf _ => rfl
    | node h2 _ _ => rw [h] at h2; cases h2
  | node h hl hr il ir =>
    cases g with
    | leaf h2 => rw [h] at h2; cases h2
    | node _ gl gr => rw [il gl, ir gr]
theorem bt_ex {t : Sh} {n : Nat} (ht : Tr t n) : ∀ (f i k : Nat), Lv t i k → n ≤ f + k + 1 → ∃ b, Bt t b i
  | 0, i, k, h, hf => by
    cases hK : t.K i
    · exact ⟨.leaf i, .leaf hK⟩
    · have := (h.next (fun _ => true) hK).lt ht; omega
  | f + 1, i, k, h, hf => by
    cases hK : t.K i
    · exact ⟨.leaf i, .leaf hK⟩
    · obtain ⟨l, hl⟩ := bt_ex ht f _ _ (h.left hK) (by omega)
      obtain ⟨r, hr⟩ := bt_ex ht f _ _ (h.right hK) (by omega)
      exact ⟨.node i l r, .node hK hl hr⟩
theorem bt_root {t : Sh} {n : Nat} (ht : Tr t n) : ∃ b, Bt t b 0 := bt_ex ht n 0 0 .zero (by omega)
/-- The nodes in their order; the leaves; the inner nodes. -/
def BT.pre : BT → List Nat
  | .leaf i => [i]
  | .node i l r => i :: (l.pre ++ r.pre)
def BT.lv : BT → List Nat
  | .leaf i => [i]
  | .node _ l r => l.lv ++ r.lv
def BT.inn : BT → List Nat
  | .leaf _ => []
  | .node i l r => i :: (l.inn ++ r.inn)
def BT.nl : BT → Nat
  | .leaf _ => 1
  | .node _ l r => l.nl + r.nl
theorem BT.lv_len (b : BT) : b.lv.length = b.nl := by
  induction b with
  | leaf i => rfl
  | node i l r hl hr => simp [BT.lv, BT.nl, hl, hr]
theorem BT.nl_pos (b : BT) : 0 < b.nl := by
  induction b with
  | leaf i => simp [BT.nl]
  | node i l r hl hr => simp only [BT.nl]; omega
theorem Bt.pre_lv {t : Sh} {b : BT} {i : Nat} (h : Bt t b i) : b.pre.filter (fun j => !t.K j) = b.lv := by
  induction h with
  | leaf h => simp [BT.pre, BT.lv, h]
  | node h hl hr il ir => simp [BT.pre, BT.lv, h, il, ir]
theorem Bt.pre_inn {t : Sh} {b : BT} {i : Nat} (h : Bt t b i) : b.pre.filter (fun j => t.K j) = b.inn := by
  induction h with
  | leaf h => simp [BT.pre, BT.inn, h]
  | node h hl hr il ir => simp [BT.pre, BT.inn, h, il, ir]
theorem go_bt {t : Sh} {n : Nat} (ht : Tr t n) {b : BT} {i : Nat} (h : Bt t b i) : ∀ (F : Nat) (out S : List Nat), Way t n out (i :: S) → Str t n out (i :: S) →
    go t (F + b.pre.length) out (i :: S) = go t F (out ++ b.pre) S ∧ Way t n (out ++ b.pre) S ∧ Str t n (out ++ b.pre) S := by
  induction h with
  | @leaf i h =>
    intro F out S hw hs
    have hi := hs.fresh
    have w2 := Way.new ht.wi hw hi
    have s2 := hs.next ht hw
    rw [h] at w2 s2
    simp only [Bool.false_eq_true, if_false] at w2 s2
    refine ⟨?_, w2, s2⟩
    simp [BT.pre, go, hi, h]
  | @node i l r h hl hr il ir =>
    intro F out S hw hs
    have hi := hs.fresh
    have w2 := Way.new ht.wi hw hi
    have s2 := hs.next ht hw
    rw [h] at w2 s2
    simp only [if_true] at w2 s2
    obtain ⟨e1, w3, s3⟩ := il (F + r.pre.length) _ _ w2 s2
    obtain ⟨e2, w4, s4⟩ := ir F _ _ w3 s3
    have el : out ++ (BT.node i l r).pre = out ++ [i] ++ l.pre ++ r.pre := by simp [BT.pre]
    refine ⟨?_, by rw [el]; exact w4, by rw [el]; exact s4⟩
    rw [el, ← e2, ← e1]
    have ef : F + (BT.node i l r).pre.length = (F + r.pre.length + l.pre.length) + 1 := by simp [BT.pre]; omega
    rw [ef, go, if_neg hi, if_pos h]
theorem ord_bt {t : Sh} {n : Nat} (ht : Tr t n) {b : BT} (h : Bt t b 0) : ord t n = b.pre := by
  have h0 := go_bt ht h 0 [] [] (Way.start ht.wi) (Str.start t n)
  have hl : b.pre.length ≤ n := by
    have := nodup_len h0.2.1.nd h0.2.1.lo
    simpa using this
  have h1 := (go_bt ht h (3 * n + 1 - b.pre.length) [] [] (Way.start ht.wi) (Str.start t n)).1
  rw [show 3 * n + 1 - b.pre.length + b.pre.length = 3 * n + 1 by omega, go_nil] at h1
  simpa [ord] using h1
/-- Marks: a node, the first leaf below it, where those of its left side end. -/
def BT.mks : BT → Nat → List (Nat × Nat × Nat)
  | .leaf _, _ => []
  | .node i l r, a => (i, a, a + l.nl) :: (l.mks a ++ r.mks (a + l.nl))
theorem BT.mks_inn (b : BT) : ∀ a, (b.mks a).map (·.1) = b.inn := by
  induction b with
  | leaf i => intro a; rfl
  | node i l r hl hr => intro a; simp [BT.mks, BT.inn, hl, hr]
theorem BT.mks_in (b : BT) : ∀ a, ∀ x ∈ b.mks a, a ≤ x.2.1 ∧ x.2.1 < x.2.2 ∧ x.2.2 < a + b.nl := by
  induction b with
  | leaf i => intro a x hx; simp [BT.mks] at hx
  | node i l r hl hr =>
    intro a x hx
    have p1 := l.nl_pos
    have p2 := r.nl_pos
    simp only [BT.mks, List.mem_cons, List.mem_append] at hx
    simp only [BT.nl]
    rcases hx with rfl | hx | hx
    · simp only; omega
    · have := hl a x hx; omega
    · have := hr _ x hx; omega
/-- Each node with the first leaf below it. -/
def BT.fr : BT → Nat → List (Nat × Nat)
  | .leaf i, a => [(i, a)]
  | .node i l r, a => (i, a) :: (l.fr a ++ r.fr (a + l.nl))
theorem BT.fr_pre (b : BT) : ∀ a, (b.fr a).map (·.1) = b.pre := by
  induction b with
  | leaf i => intro a; rfl
  | node i l r hl hr => intro a; simp [BT.fr, BT.pre, hl, hr]
theorem Bt.fr_mks {t : Sh} {b : BT} {i : Nat} (h : Bt t b i) : ∀ a, ∀ x ∈ b.mks a, (x.1, x.2.1) ∈ b.fr a ∧ t.K x.1 = true ∧ ∃ l, Bt t l (t.A x.1) ∧ x.2.2 = x.2.1 + l.nl := by
  induction h with
  | leaf h => intro a x hx; simp [BT.mks] at hx
  | @node i l r h hl hr il ir =>
    intro a x hx
    simp only [BT.mks, List.mem_cons, List.mem_append] at hx
    simp only [BT.fr, List.mem_cons, List.mem_append]
    rcases hx with rfl | hx | hx
    · exact ⟨.inl rfl, h, l, hl, rfl⟩
    · obtain ⟨h1, h2⟩ := il a x hx; exact ⟨.inr (.inl h1), h2⟩
    · obtain ⟨h1, h2⟩ := ir _ x hx; exact ⟨.inr (.inr h1), h2⟩
/-- Where the two below a node begin. -/
theorem Bt.fr_next {t : Sh} {b : BT} {i : Nat} (h : Bt t b i) : ∀ a, ∀ x ∈ b.fr a, t.K x.1 = true → ∃ l, Bt t l (t.A x.1) ∧ (t.A x.1, x.2) ∈ b.fr a ∧ (t.B x.1, x.2 + l.nl) ∈ b.fr a := by
  have top : ∀ {b : BT} {i : Nat}, Bt t b i → ∀ a, (i, a) ∈ b.fr a := by
    intro b i h a
    cases h with
    | leaf h => simp [BT.fr]
    | node h hl hr => simp [BT.fr]
  induction h with
  | leaf h =>
    intro a x hx hK
    simp only [BT.fr, List.mem_singleton] at hx
    subst hx
    rw [h] at hK; cases hK
  | @node i l r h hl hr il ir =>
    intro a x hx hK
    simp only [BT.fr, List.mem_cons, List.mem_append] at hx ⊢
    rcases hx with rfl | hx | hx
    · exact ⟨l, hl, .inr (.inl (top hl a)), .inr (.inr (top hr _))⟩
    · obtain ⟨k, h1, h2, h3⟩ := il a x hx hK; exact ⟨k, h1, .inr (.inl h2), .inr (.inl h3)⟩
    · obtain ⟨k, h1, h2, h3⟩ := ir _ x hx hK; exact ⟨k, h1, .inr (.inr h2), .inr (.inr h3)⟩
/-- Lists of pairs whose first parts never repeat have one second part for each. -/
theorem assoc_one {l : List (Nat × Nat)} (h : (l.map (·.1)).Nodup) {i a c : Nat} (h1 : (i, a) ∈ l) (h2 : (i, c) ∈ l) : a = c := by
  induction l with
  | nil => simp at h1
  | cons x l ih =>
    simp only [List.map_cons, List.nodup_cons, List.mem_map, not_exists, not_and] at h
    rcases List.mem_cons.1 h1 with e1 | e1
    · rcases List.mem_cons.1 h2 with e2 | e2
      · rw [← e1] at e2; cases e2; rfl
      · exact absurd (by rw [← e1]) (h.1 _ e2)
    · rcases List.mem_cons.1 h2 with e2 | e2
      · exact absurd (by rw [← e2]) (h.1 _ e1)
      · exact ih h.2 e1 e2
/-- Marks of the same nodes, each right, are the same. -/
theorem marks_one {t : Sh} {n : Nat} (ht : Tr t n) {b : BT} (h : Bt t b 0) : ∀ (l m : List (Nat × Nat × Nat)), l.map (·.1) = m.map (·.1) → (∀ x ∈ l, (x.1, x.2.1) ∈ b.fr 0 ∧ t.K x.1 = true ∧ ∃ c, Bt t c (t.A x.1) ∧ x.2.2 = x.2.1 + c.nl) → (∀ x ∈ m, (x.1, x.2.1) ∈ b.fr 0 ∧ t.K x.1 = true ∧ ∃ c, Bt t c (t.A x.1) ∧ x.2.2 = x.2.1 + c.nl) → l = m
  | [], [], _, _, _ => rfl
  | [], y :: m, he, _, _ => by simp at he
  | x :: l, [], he, _, _ => by simp at he
  | x :: l, y :: m, he, hl, hm => by
    simp only [List.map_cons, List.cons.injEq] at he
    have hnd : ((b.fr 0).map (·.1)).Nodup := by rw [b.fr_pre, ← ord_bt ht h]; exact ord_nodup ht.wi
    obtain ⟨a1, k1, c1, b1, e1⟩ := hl x (by simp)
    obtain ⟨a2, k2, c2, b2, e2⟩ := hm y (by simp)
    rw [← he.1] at a2 b2
    have e3 := assoc_one hnd a1 a2
    have e4 := b1.one b2
    subst e4
    have e5 : x = y := by
      obtain ⟨x1, x2, x3⟩ := x
      obtain ⟨y1, y2, y3⟩ := y
      simp only at he e1 e2 e3 ⊢
      obtain ⟨rfl, -⟩ := he
      subst e3
      rw [e1, e2]
    rw [e5, marks_one ht h l m he.2 (fun z hz => hl z (List.mem_cons_of_mem _ hz)) (fun z hz => hm z (List.mem_cons_of_mem _ hz))]
/-- The leaf that a choice leads to: its place among the leaves, its number. -/
def BT.ext (c : Nat → Bool) : BT → Nat → Nat
  | .leaf _, a => a
  | .node i l r, a => if c i = true then l.ext c a else r.ext c (a + l.nl)
theorem BT.ext_in (c : Nat → Bool) (b : BT) : ∀ a, a ≤ b.ext c a ∧ b.ext c a < a + b.nl := by
  induction b with
  | leaf i => intro a; simp [BT.ext, BT.nl]
  | node i l r hl hr =>
    intro a
    have h1 := hl a
    have h2 := hr (a + l.nl)
    simp only [BT.ext, BT.nl]
    split <;> omega
/-- The leaves ahead of it are struck out by nodes at which the choice goes right, and it is struck out by none. -/
theorem BT.ext_cut (c : Nat → Bool) (b : BT) : ∀ a, (∀ p, a ≤ p → p < b.ext c a → ∃ x ∈ b.mks a, c x.1 = false ∧ x.2.1 ≤ p ∧ p < x.2.2) ∧ ∀ x ∈ b.mks a, c x.1 = false → ¬ (x.2.1 ≤ b.ext c a ∧ b.ext c a < x.2.2) := by
  induction b with
  | leaf i => intro a; simp only [BT.ext, BT.mks]; exact ⟨fun p h1 h2 => by omega, fun x hx => by simp at hx⟩
  | node i l r hl hr =>
    intro a
    have il := l.ext_in c a
    have ir := r.ext_in c (a + l.nl)
    obtain ⟨l1, l2⟩ := hl a
    obtain ⟨r1, r2⟩ := hr (a + l.nl)
    simp only [BT.ext, BT.mks, List.mem_cons, List.mem_append]
    cases hc : c i
    · simp only [Bool.false_eq_true, if_false]
      refine ⟨fun p h1 h2 => ?_, fun x hx hcx => ?_⟩
      · by_cases hp : p < a + l.nl
        · exact ⟨(i, a, a + l.nl), .inl rfl, hc, h1, hp⟩
        · obtain ⟨x, h3, h4⟩ := r1 p (by omega) h2
          exact ⟨x, .inr (.inr h3), h4⟩
      · rcases hx with rfl | hx | hx
        · simp only; omega
        · have := l.mks_in a x hx; omega
        · exact r2 x hx hcx
    · simp only [if_true]
      refine ⟨fun p h1 h2 => ?_, fun x hx hcx => ?_⟩
      · obtain ⟨x, h3, h4⟩ := l1 p h1 h2
        exact ⟨x, .inr (.inl h3), h4⟩
      · rcases hx with rfl | hx | hx
        · rw [hc] at hcx; cases hcx
        · exact l2 x hx hcx
        · have := r.mks_in _ x hx; omega
end Go.Proofs.YtcdcheecaphmgaaDoor
