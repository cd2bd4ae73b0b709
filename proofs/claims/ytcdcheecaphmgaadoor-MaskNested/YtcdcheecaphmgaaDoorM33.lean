import Derived.Test.YtcdcheecaphmgaaDoorProg
import Derived.Test.YtcdcheecaphmgaaDoorYX4
set_option linter.unusedVariables false
set_option linter.unusedSimpArgs false
namespace Go.Proofs.YtcdcheecaphmgaaDoor
/-- A tree, written out. -/
inductive BT where
  | leaf (i : Nat)
  | node (i : Nat) (l r : BT)
/-- What stands below a node, written out. -/
inductive Bt (t : Sh) : BT → Nat → Prop where
  | leaf {i : Nat} (h : t.K i = false) : Bt t (.leaf i) i
  | node {i : Nat} {l r : BT} (h : t.K i = true) (hl : Bt t l (t.A i)) (hr : Bt t r (t.B i)) : Bt t (.node i l r) i
theorem Bt.one {t : Sh} {b c : BT} {i : Nat} (h : Bt t b i) (g : Bt t c i) : b = c := by
  induction h generalizing c with
  | leaf h =>
    cases g with
    | leaf _ => rfl
    | node h2 _ _ => rw [h] at h2; cases h2
  | node h hl hr il ir =>
    cases g with
    | leaf h2 => rw [h] at h2; cases h2
    | node _ gl gr => rw [il gl, ir gr]
theorem bt_ex {t : Sh} {n : Nat} (ht : Tr t n) : ∀ (f i k : Nat), Lv t i k → n ≤ f + k + 1 → ∃ b, Bt t b i
  | 0, i, k, h, hf => by
    cases hK : t.K i
    · exact ⟨.leaf i, .leaf hK⟩
    · have := (h.next (fun _ => true) hK).lt ht; omega
  | f + 1, i, k, h, hf => by
    cases hK : t.K i
    · exact ⟨.leaf i, .leaf hK⟩
    · obtain ⟨l, hl⟩ := bt_ex ht f _ _ (h.left hK) (by omega)
      obtain ⟨r, hr⟩ := bt_ex ht f _ _ (h.right hK) (by omega)
      exact ⟨.node i l r, .node hK hl hr⟩
theorem bt_root {t : Sh} {n : Nat} (ht : Tr t n) : ∃ b, Bt t b 0 := bt_ex ht n 0 0 .zero (by omega)
/-- The nodes in their order; the leaves; the inner nodes. -/
def BT.pre : BT → List Nat
  | .leaf i => [i]
  | .node i l r => i :: (l.pre ++ r.pre)
def BT.lv : BT → List Nat
  | .leaf i => [i]
  | .node _ l r => l.lv ++ r.lv
def BT.inn : BT → List Nat
  | .leaf _ => []
  | .node i l r => i :: (l.inn ++ r.inn)
def BT.nl : BT → Nat
  | .leaf _ => 1
  | .node _ l r => l.nl + r.nl
theorem BT.lv_len (b : BT) : b.lv.length = b.nl := by
  induction b with
  | leaf i => rfl
  | node i l r hl hr => simp [BT.lv, BT.nl, hl, hr]
theorem BT.nl_pos (b : BT) : 0 < b.nl := by
  induction b with
  | leaf i => simp [BT.nl]
  | node i l r hl hr => simp only [BT.nl]; omega
theorem Bt.pre_lv {t : Sh} {b : BT} {i : Nat} (h : Bt t b i) : b.pre.filter (fun j => !t.K j) = b.lv := by
  induction h with
  | leaf h => simp [BT.pre, BT.lv, h]
  | node h hl hr il ir => simp [BT.pre, BT.lv, h, il, ir]
theorem Bt.pre_inn {t : Sh} {b : BT} {i : Nat} (h : Bt t b i) : b.pre.filter (fun j => t.K j) = b.inn := by
  induction h with
  | leaf h => simp [BT.pre, BT.inn, h]
  | node h hl hr il ir => simp [BT.pre, BT.inn, h, il, ir]
theorem go_bt {t : Sh} {n : Nat} (ht : Tr t n) {b : BT} {i : Nat} (h : Bt t b i) : ∀ (F : Nat) (out S : List Nat), Way t n out (i :: S) → Str t n out (i :: S) →
    go t (F + b.pre.length) out (i :: S) = go t F (out ++ b.pre) S ∧ Way t n (out ++ b.pre) S ∧ Str t n (out ++ b.pre) S := by
  induction h with
  | @leaf i h =>
    intro F out S hw hs
    have hi := hs.fresh
    have w2 := Way.new ht.wi hw hi
    have s2 := hs.next ht hw
    rw [h] at w2 s2
    simp only [Bool.false_eq_true, if_false] at w2 s2
    refine ⟨?_, w2, s2⟩
    simp [BT.pre, go, hi, h]
  | @node i l r h hl hr il ir =>
    intro F out S hw hs
    have hi := hs.fresh
    have w2 := Way.new ht.wi hw hi
    have s2 := hs.next ht hw
    rw [h] at w2 s2
    simp only [if_true] at w2 s2
    obtain ⟨e1, w3, s3⟩ := il (F + r.pre.length) _ _ w2 s2
    obtain ⟨e2, w4, s4⟩ := ir F _ _ w3 s3
    have el : out ++ (BT.node i l r).pre = out ++ [i] ++ l.pre ++ r.pre := by simp [BT.pre]
    refine ⟨?_, by rw [el]; exact w4, by rw [el]; exact s4⟩
    rw [el, ← e2, ← e1]
    have ef : F + (BT.node i l r).pre.length = (F + r.pre.length + l.pre.length) + 1 := by simp [BT.pre]; omega
    rw [ef, go, if_neg hi, if_pos h]
theorem ord_bt {t : Sh} {n : Nat} (ht : Tr t n) {b : BT} (h : Bt t b 0) : ord t n = b.pre := by
  have h0 := go_bt ht h 0 [] [] (Way.start ht.wi) (Str.start t n)
  have hl : b.pre.length ≤ n := by
    have := nodup_len h0.2.1.nd h0.2.1.lo
    simpa using this
  have h1 := (go_bt ht h (3 * n + 1 - b.pre.length) [] [] (Way.start ht.wi) (Str.start t n)).1
  rw [show 3 * n + 1 - b.pre.length + b.pre.length = 3 * n + 1 by omega, go_nil] at h1
  simpa [ord] using h1
/-- Marks: a node, the first leaf below it, where those of its left side end. -/
def BT.mks : BT → Nat → List (Nat × Nat × Nat)
  | .leaf _, _ => []
  | .node i l r, a => (i, a, a + l.nl) :: (l.mks a ++ r.mks (a + l.nl))
theorem BT.mks_inn (b : BT) : ∀ a, (b.mks a).map (·.1) = b.inn := by
  induction b with
  | leaf i => intro a; rfl
  | node i l r hl hr => intro a; simp [BT.mks, BT.inn, hl, hr]
theorem BT.mks_in (b : BT) : ∀ a, ∀ x ∈ b.mks a, a ≤ x.2.1 ∧ x.2.1 < x.2.2 ∧ x.2.2 < a + b.nl := by
  induction b with
  | leaf i => intro a x hx; simp [BT.mks] at hx
  | node i l r hl hr =>
    intro a x hx
    have p1 := l.nl_pos
    have p2 := r.nl_pos
    simp only [BT.mks, List.mem_cons, List.mem_append] at hx
    simp only [BT.nl]
    rcases hx with rfl | hx | hx
    · simp only; omega
    · have := hl a x hx; omega
    · have := hr _ x hx; omega
/-- Each node with the first leaf below it. -/
def BT.fr : BT → Nat → List (Nat × Nat)
  | .leaf i, a => [(i, a)]
  | .node i l r, a => (i, a) :: (l.fr a ++ r.fr (a + l.nl))
theorem BT.fr_pre (b : BT) : ∀ a, (b.fr a).map (·.1) = b.pre := by
  induction b with
  | leaf i => intro a; rfl
  | node i l r hl hr => intro a; simp [BT.fr, BT.pre, hl, hr]
theorem Bt.fr_mks {t : Sh} {b : BT} {i : Nat} (h : Bt t b i) : ∀ a, ∀ x ∈ b.mks a, (x.1, x.2.1) ∈ b.fr a ∧ t.K x.1 = true ∧ ∃ l, Bt t l (t.A x.1) ∧ x.2.2 = x.2.1 + l.nl := by
  induction h with
  | leaf h => intro a x hx; simp [BT.mks] at hx
  | @node i l r h hl hr il ir =>
    intro a x hx
    simp only [BT.mks, List.mem_cons, List.mem_append] at hx
    simp only [BT.fr, List.mem_cons, List.mem_append]
    rcases hx with rfl | hx | hx
    · exact ⟨.inl rfl, h, l, hl, rfl⟩
    · obtain ⟨h1, h2⟩ := il a x hx; exact ⟨.inr (.inl h1), h2⟩
    · obtain ⟨h1, h2⟩ := ir _ x hx; exact ⟨.inr (.inr h1), h2⟩
/-- Where the two below a node begin. -/
theorem Bt.fr_next {t : Sh} {b : BT} {i : Nat} (h : Bt t b i) : ∀ a, ∀ x ∈ b.fr a, t.K x.1 = true → ∃ l, Bt t l (t.A x.1) ∧ (t.A x.1, x.2) ∈ b.fr a ∧ (t.B x.1, x.2 + l.nl) ∈ b.fr a := by
  have top : ∀ {b : BT} {i : Nat}, Bt t b i → ∀ a, (i, a) ∈ b.fr a := by
    intro b i h a
    cases h with
    | leaf h => simp [BT.fr]
    | node h hl hr => simp [BT.fr]
  induction h with
  | leaf h =>
    intro a x hx hK
    simp only [BT.fr, List.mem_singleton] at hx
    subst hx
    rw [h] at hK; cases hK
  | @node i l r h hl hr il ir =>
    intro a x hx hK
    simp only [BT.fr, List.mem_cons, List.mem_append] at hx ⊢
    rcases hx with rfl | hx | hx
    · exact ⟨l, hl, .inr (.inl (top hl a)), .inr (.inr (top hr _))⟩
    · obtain ⟨k, h1, h2, h3⟩ := il a x hx hK; exact ⟨k, h1, .inr (.inl h2), .inr (.inl h3)⟩
    · obtain ⟨k, h1, h2, h3⟩ := ir _ x hx hK; exact ⟨k, h1, .inr (.inr h2), .inr (.inr h3)⟩
/-- Lists of pairs whose first parts never repeat have one second part for each. -/
theorem assoc_one {l : List (Nat × Nat)} (h : (l.map (·.1)).Nodup) {i a c : Nat} (h1 : (i, a) ∈ l) (h2 : (i, c) ∈ l) : a = c := by
  induction l with
  | nil => simp at h1
  | cons x l ih =>
    simp only [List.map_cons, List.nodup_cons, List.mem_map, not_exists, not_and] at h
    rcases List.mem_cons.1 h1 with e1 | e1
    · rcases List.mem_cons.1 h2 with e2 | e2
      · rw [← e1] at e2; cases e2; rfl
      · exact absurd (by rw [← e1]) (h.1 _ e2)
    · rcases List.mem_cons.1 h2 with e2 | e2
      · exact absurd (by rw [← e2]) (h.1 _ e1)
      · exact ih h.2 e1 e2
/-- Marks of the same nodes, each right, are the same. -/
theorem marks_one {t : Sh} {n : Nat} (ht : Tr t n) {b : BT} (h : Bt t b 0) : ∀ (l m : List (Nat × Nat × Nat)), l.map (·.1) = m.map (·.1) → (∀ x ∈ l, (x.1, x.2.1) ∈ b.fr 0 ∧ t.K x.1 = true ∧ ∃ c, Bt t c (t.A x.1) ∧ x.2.2 = x.2.1 + c.nl) → (∀ x ∈ m, (x.1, x.2.1) ∈ b.fr 0 ∧ t.K x.1 = true ∧ ∃ c, Bt t c (t.A x.1) ∧ x.2.2 = x.2.1 + c.nl) → l = m
  | [], [], _, _, _ => rfl
  | [], y :: m, he, _, _ => by simp at he
  | x :: l, [], he, _, _ => by simp at he
  | x :: l, y :: m, he, hl, hm => by
    simp only [List.map_cons, List.cons.injEq] at he
    have hnd : ((b.fr 0).map (·.1)).Nodup := by rw [b.fr_pre, ← ord_bt ht h]; exact ord_nodup ht.wi
    obtain ⟨a1, k1, c1, b1, e1⟩ := hl x (by simp)
    obtain ⟨a2, k2, c2, b2, e2⟩ := hm y (by simp)
    rw [← he.1] at a2 b2
    have e3 := assoc_one hnd a1 a2
    have e4 := b1.one b2
    subst e4
    have e5 : x = y := by
      obtain ⟨x1, x2, x3⟩ := x
      obtain ⟨y1, y2, y3⟩ := y
      simp only at he e1 e2 e3 ⊢
      obtain ⟨rfl, -⟩ := he
      subst e3
      rw [e1, e2]
    rw [e5, marks_one ht h l m he.2 (fun z hz => hl z (List.mem_cons_of_mem _ hz)) (fun z hz => hm z (List.mem_cons_of_mem _ hz))]
/-- The leaf that a choice leads to: its place among the leaves, its number. -/
def BT.ext (c : Nat → Bool) : BT → Nat → Nat
  | .leaf _, a => a
  | .node i l r, a => if c i = true then l.ext c a else r.ext c (a + l.nl)
theorem BT.ext_in (c : Nat → Bool) (b : BT) : ∀ a, a ≤ b.ext c a ∧ b.ext c a < a + b.nl := by
  induction b with
  | leaf i => intro a; simp [BT.ext, BT.nl]
  | node i l r hl hr =>
    intro a
    have h1 := hl a
    have h2 := hr (a + l.nl)
    simp only [BT.ext, BT.nl]
    split <;> omega
/-- The leaves ahead of it are struck out by nodes at which the choice goes right, and it is struck out by none. -/
theorem BT.ext_cut (c : Nat → Bool) (b : BT) : ∀ a, (∀ p, a ≤ p → p < b.ext c a → ∃ x ∈ b.mks a, c x.1 = false ∧ x.2.1 ≤ p ∧ p < x.2.2) ∧ ∀ x ∈ b.mks a, c x.1 = false → ¬ (x.2.1 ≤ b.ext c a ∧ b.ext c a < x.2.2) := by
  induction b with
  | leaf i => intro a; simp only [BT.ext, BT.mks]; exact ⟨fun p h1 h2 => by omega, fun x hx => by simp at hx⟩
  | node i l r hl hr =>
    intro a
    have il := l.ext_in c a
    have ir := r.ext_in c (a + l.nl)
    obtain ⟨l1, l2⟩ := hl a
    obtain ⟨r1, r2⟩ := hr (a + l.nl)
    simp only [BT.ext, BT.mks, List.mem_cons, List.mem_append]
    cases hc : c i
    · simp only [Bool.false_eq_true, if_false]
      refine ⟨fun p h1 h2 => ?_, fun x hx hcx => ?_⟩
      · by_cases hp : p < a + l.nl
        · exact ⟨(i, a, a + l.nl), .inl rfl, hc, h1, hp⟩
        · obtain ⟨x, h3, h4⟩ := r1 p (by omega) h2
          exact ⟨x, .inr (.inr h3), h4⟩
      · rcases hx with rfl | hx | hx
        · simp only; omega
        · have := l.mks_in a x hx; omega
        · exact r2 x hx hcx
    · simp only [if_true]
      refine ⟨fun p h1 h2 => ?_, fun x hx hcx => ?_⟩
      · obtain ⟨x, h3, h4⟩ := l1 p h1 h2
        exact ⟨x, .inr (.inl h3), h4⟩
      · rcases hx with rfl | hx | hx
        · rw [hc] at hcx; cases hcx
        · exact l2 x hx hcx
        · have := r.mks_in _ x hx; omega
end Go.Proofs.YtcdcheecaphmgaaDoor
set_option linter.unusedVariables false
set_option linter.unusedSimpArgs false
namespace Go.Proofs.YtcdcheecaphmgaaDoor
theorem nodup_fullM {n : Nat} {l : List Nat} (h : l.Nodup) (hl : ∀ i ∈ l, i < n) (hn : l.length = n) {j : Nat} (hj : j < n) : j ∈ l := by
  refine Decidable.byContradiction fun hc => ?_
  have := nodup_len (n := n) (List.nodup_cons.2 ⟨hc, h⟩) (by
    intro i hi
    rcases List.mem_cons.1 hi with rfl | hi
    · exact hj
    · exact hl i hi)
  simp only [List.length_cons] at this
  omega
/-- How often a node has another for a child. -/
def kf (t : Sh) (j i : Nat) : Nat := (if t.K i = true ∧ t.A i = j then 1 else 0) + (if t.K i = true ∧ t.B i = j then 1 else 0)
theorem cnt_sum (t : Sh) (j : Nat) : ∀ n, cnt t j n = ((List.range n).map (kf t j)).sum
  | 0 => rfl
  | n + 1 => by
    rw [List.range_succ, List.map_append, List.sum_append_nat, ← cnt_sum t j n]
    simp [cnt, kf]
    omega
theorem mem_le_sum (f : Nat → Nat) {l : List Nat} {i : Nat} (h : i ∈ l) : f i ≤ (l.map f).sum := by
  induction l with
  | nil => simp at h
  | cons x l ih =>
    rw [List.map_cons, List.sum_cons]
    rcases List.mem_cons.1 h with rfl | h
    · omega
    · have := ih h; omega
theorem Bt.pre_sum {t : Sh} (j : Nat) {b : BT} {i : Nat} (h : Bt t b i) : (b.pre.map (kf t j)).sum + (if i = j then 1 else 0) = b.pre.count j := by
  induction h with
  | @leaf i h => simp [BT.pre, kf, h, List.count_cons]
  | @node i l r h hl hr il ir =>
    simp only [BT.pre, List.map_cons, List.map_append, List.sum_cons, List.sum_append_nat, List.count_cons, List.count_append, ← il, ← ir]
    simp only [kf, h, true_and, beq_iff_eq]
    omega
theorem Bt.topM {t : Sh} {b : BT} {i : Nat} (h : Bt t b i) : i ∈ b.pre := by
  cases h with
  | leaf h => simp [BT.pre]
  | node h hl hr => simp [BT.pre]
theorem Bt.kids {t : Sh} {b : BT} {i : Nat} (h : Bt t b i) : ∀ k ∈ b.pre, t.K k = true → t.A k ∈ b.pre ∧ t.B k ∈ b.pre := by
  induction h with
  | @leaf i h => intro k hk hK; simp only [BT.pre, List.mem_singleton] at hk; subst hk; rw [h] at hK; cases hK
  | @node i l r h hl hr il ir =>
    intro k hk hK
    simp only [BT.pre, List.mem_cons, List.mem_append] at hk ⊢
    rcases hk with rfl | hk | hk
    · exact ⟨.inr (.inl hl.topM), .inr (.inr hr.topM)⟩
    · obtain ⟨a, c⟩ := il k hk hK; exact ⟨.inr (.inl a), .inr (.inl c)⟩
    · obtain ⟨a, c⟩ := ir k hk hK; exact ⟨.inr (.inr a), .inr (.inr c)⟩
theorem Bt.rch {t : Sh} {b : BT} {i : Nat} (h : Bt t b i) : Rch t i → ∀ k ∈ b.pre, Rch t k := by
  induction h with
  | @leaf i h => intro hr k hk; simp only [BT.pre, List.mem_singleton] at hk; subst hk; exact hr
  | @node i l r h hl hr il ir =>
    intro h0 k hk
    simp only [BT.pre, List.mem_cons, List.mem_append] at hk
    rcases hk with rfl | hk | hk
    · exact h0
    · exact il (.left h0 h) k hk
    · exact ir (.right h0 h) k hk
/-- What is written out, each node once, is a tree. -/
theorem tr_of_bt {t : Sh} {n : Nat} {b : BT} (h : Bt t b 0) (hnd : b.pre.Nodup) (hlo : ∀ i ∈ b.pre, i < n) (hn : b.pre.length = n) : Tr t n := by
  have full : ∀ j, j < n → j ∈ b.pre := fun j hj => nodup_fullM hnd hlo hn hj
  have hp : b.pre.Perm (List.range n) := List.perm_iff_count.2 fun a => by
    rw [hnd.count, List.count_range]
    by_cases ha : a < n
    · rw [if_pos ha, if_pos (full a ha)]
    · rw [if_neg ha, if_neg (fun hc => ha (hlo a hc))]
  have hs : ∀ j, cnt t j n = (b.pre.map (kf t j)).sum := fun j => by rw [cnt_sum]; exact (hp.map (kf t j)).sum_nat.symm
  have z0 : (b.pre.map (kf t 0)).sum = 0 := by
    have h1 := h.pre_sum 0
    rw [hnd.count, if_pos h.topM, if_pos rfl] at h1
    omega
  refine ⟨⟨hlo 0 h.topM |> fun h0 => by omega, fun i hi hK => ?_⟩, fun i hi hK => ?_, fun j h0 hj => ?_, fun j hj => h.rch .zero j (full j hj)⟩
  · obtain ⟨a, c⟩ := h.kids i (full i hi) hK
    exact ⟨hlo _ a, hlo _ c⟩
  · have h2 := mem_le_sum (kf t 0) (full i hi)
    rw [z0] at h2
    unfold kf at h2
    constructor
    · intro e; rw [if_pos ⟨hK, e⟩] at h2; omega
    · intro e; rw [if_pos (show t.K i = true ∧ t.B i = 0 from ⟨hK, e⟩)] at h2; omega
  · have h1 := h.pre_sum j
    rw [hnd.count, if_pos (full j hj), if_neg (by omega)] at h1
    rw [hs j]
    omega
end Go.Proofs.YtcdcheecaphmgaaDoor
set_option linter.unusedVariables false
set_option linter.unusedSimpArgs false
namespace Go.Proofs.YtcdcheecaphmgaaDoor
/-- A tree with its nodes renamed. -/
def BT.ren (f : Nat → Nat) : BT → BT
  | .leaf i => .leaf (f i)
  | .node i l r => .node (f i) (l.ren f) (r.ren f)
theorem BT.ren_pre (f : Nat → Nat) (b : BT) : (b.ren f).pre = b.pre.map f := by
  induction b with
  | leaf i => rfl
  | node i l r hl hr => simp [BT.ren, BT.pre, hl, hr]
theorem BT.ren_nl (f : Nat → Nat) (b : BT) : (b.ren f).nl = b.nl := by
  induction b with
  | leaf i => rfl
  | node i l r hl hr => simp [BT.ren, BT.nl, hl, hr]
theorem Bt.ren {t u : Sh} (f : Nat → Nat) {b : BT} {i : Nat} (h : Bt t b i) : (∀ k ∈ b.pre, u.K (f k) = t.K k ∧ (t.K k = true → u.A (f k) = f (t.A k) ∧ u.B (f k) = f (t.B k))) → Bt u (b.ren f) (f i) := by
  induction h with
  | @leaf i h =>
    intro hu
    exact .leaf (by rw [(hu i (by simp [BT.pre])).1]; exact h)
  | @node i l r h hl hr il ir =>
    intro hu
    obtain ⟨h1, h2⟩ := hu i (by simp [BT.pre])
    obtain ⟨h3, h4⟩ := h2 h
    refine .node (by rw [h1]; exact h) ?_ ?_
    · rw [h3]; exact il (fun k hk => hu k (by simp [BT.pre, hk]))
    · rw [h4]; exact ir (fun k hk => hu k (by simp [BT.pre, hk]))
/-- What waits, each with what stands below it written out. -/
def Wt (t : Sh) : List BT → List Nat → Prop
  | [], [] => True
  | b :: bs, i :: l => Bt t b i ∧ Wt t bs l
  | _, _ => False
theorem Wt.app {t : Sh} : ∀ {bs cs : List BT} {l m : List Nat}, Wt t bs l → Wt t cs m → Wt t (bs ++ cs) (l ++ m)
  | [], _, [], _, _, h => h
  | b :: bs, _, i :: l, _, h, g => ⟨h.1, Wt.app h.2 g⟩
/-- Nodes in the order of their depth: so many are done, the others wait. -/
def Bf (t : Sh) (b : BT) (i : Nat) (l : List Nat) : Prop := i ≤ l.length ∧ ∃ bs, Wt t bs (l.drop i) ∧ (l.take i ++ bs.flatMap BT.pre).Perm b.pre
theorem Bf.start {t : Sh} {b : BT} {r : Nat} (h : Bt t b r) : Bf t b 0 [r] := ⟨by simp, [b], ⟨h, trivial⟩, by simp⟩
theorem Bf.le {t : Sh} {b : BT} {i : Nat} {l : List Nat} (h : Bf t b i l) : l.length ≤ b.pre.length := by
  obtain ⟨h1, bs, h2, h3⟩ := h
  have e := h3.length_eq
  have pp : ∀ b : BT, 0 < b.pre.length := fun b => by cases b <;> simp [BT.pre]
  have hw : ∀ (bs : List BT) (m : List Nat), Wt t bs m → m.length ≤ (bs.flatMap BT.pre).length := by
    intro bs
    induction bs with
    | nil => intro m hm; cases m with
      | nil => simp
      | cons x m => exact hm.elim
    | cons c bs ih => intro m hm; cases m with
      | nil => exact hm.elim
      | cons x m =>
        have a1 := ih m hm.2
        have a2 := pp c
        simp only [List.flatMap_cons, List.length_append, List.length_cons]
        omega
  have := hw bs _ h2
  simp only [List.length_append, List.length_take, List.length_drop] at e this
  omega
theorem Bf.next {t : Sh} {b : BT} {i : Nat} {l : List Nat} (h : Bf t b i l) (hi : i < l.length) : Bf t b (i + 1) (if t.K (l.getD i 0) = true then l ++ [t.A (l.getD i 0), t.B (l.getD i 0)] else l) := by
  obtain ⟨h1, bs, h2, h3⟩ := h
  have hd : l.drop i = l.getD i 0 :: l.drop (i + 1) := by
    rw [List.drop_eq_getElem_cons hi, List.getD_eq_getElem?_getD, List.getElem?_eq_getElem hi]; rfl
  have ht : l.take (i + 1) = l.take i ++ [l.getD i 0] := by
    rw [List.take_add_one, List.getElem?_eq_getElem hi, List.getD_eq_getElem?_getD, List.getElem?_eq_getElem hi]; rfl
  generalize l.getD i 0 = p at *
  rw [hd] at h2
  cases bs with
  | nil => exact h2.elim
  | cons c bs =>
    obtain ⟨hc, hw⟩ := h2
    cases hc with
    | leaf hK =>
      rw [if_neg (by rw [hK]; simp)]
      exact ⟨hi, bs, hw, by rw [ht]; simpa [BT.pre] using h3⟩
    | @node _ x y hK hx hy =>
      rw [if_pos hK]
      refine ⟨by simp; omega, bs ++ [x, y], ?_, ?_⟩
      · rw [List.drop_append_of_le_length (by omega)]
        exact Wt.app hw ⟨hx, hy, trivial⟩
      · rw [List.take_append_of_le_length (by omega), ht]
        refine List.Perm.trans ?_ h3
        simp only [List.flatMap_append, List.flatMap_cons, List.flatMap_nil, BT.pre, List.append_nil, List.append_assoc, List.cons_append, List.nil_append]
        refine List.Perm.append_left _ (List.Perm.cons _ ?_)
        rw [← List.append_assoc x.pre]
        exact List.perm_append_comm
theorem Bf.done {t : Sh} {b : BT} {l : List Nat} (h : Bf t b l.length l) : l.Perm b.pre := by
  obtain ⟨h1, bs, h2, h3⟩ := h
  rw [List.drop_length] at h2
  cases bs with
  | nil => simpa using h3
  | cons c bs => exact h2.elim
/-- The place of each in the list. -/
def Plc (l : List Nat) (f : Nat → Nat) : Prop := ∀ k, k < l.length → f (l.getD k 0) = k
theorem Plc.map {l : List Nat} {f : Nat → Nat} (h : Plc l f) : l.map f = List.range l.length := by
  apply List.ext_getElem
  · simp
  · intro k h1 h2
    have h3 : k < l.length := by simpa using h1
    have := h k h3
    rw [List.getD_eq_getElem?_getD, List.getElem?_eq_getElem h3] at this
    simpa using this
/-- A subtree numbered anew, in whatever order, is a tree with the same leaves. -/
theorem sub_tree {t u : Sh} {b : BT} {r : Nat} {l : List Nat} {f : Nat → Nat} (h : Bt t b r) (hp : l.Perm b.pre) (hf : Plc l f) (h0 : f r = 0) (hu : ∀ k ∈ b.pre, u.K (f k) = t.K k ∧ (t.K k = true → u.A (f k) = f (t.A k) ∧ u.B (f k) = f (t.B k))) :
    Tr u l.length ∧ Bt u (b.ren f) 0 ∧ (b.ren f).nl = b.nl := by
  have hb : Bt u (b.ren f) 0 := by rw [← h0]; exact h.ren f hu
  have hr : (List.range l.length).Perm (b.ren f).pre := by rw [BT.ren_pre, ← hf.map]; exact hp.map f
  refine ⟨tr_of_bt hb (hr.nodup_iff.1 List.nodup_range) (fun i hi => List.mem_range.1 (hr.mem_iff.2 hi)) ?_, hb, b.ren_nl f⟩
  rw [← hr.length_eq, List.length_range]
theorem Bt.sub_nodup {t : Sh} {b : BT} {i : Nat} (h : Bt t b i) : b.pre.Nodup → ∀ k ∈ b.pre, ∀ c, Bt t c k → c.pre.Nodup ∧ c.pre.length ≤ b.pre.length ∧ ∀ x ∈ c.pre, x ∈ b.pre := by
  induction h with
  | @leaf i h =>
    intro hn k hk c hc
    simp only [BT.pre, List.mem_singleton] at hk
    subst hk
    rw [hc.one (.leaf h)]
    exact ⟨hn, Nat.le_refl _, fun x hx => hx⟩
  | @node i l r h hl hr il ir =>
    intro hn k hk c hc
    have hn2 := hn
    simp only [BT.pre, List.mem_cons, List.mem_append] at hk
    rw [BT.pre, List.nodup_cons, List.nodup_append] at hn2
    rcases hk with rfl | hk | hk
    · rw [hc.one (.node h hl hr)]
      exact ⟨hn, Nat.le_refl _, fun x hx => hx⟩
    · obtain ⟨a1, a2, a3⟩ := il hn2.2.1 k hk c hc
      refine ⟨a1, by simp only [BT.pre, List.length_cons, List.length_append]; omega, fun x hx => ?_⟩
      simp only [BT.pre, List.mem_cons, List.mem_append]
      exact .inr (.inl (a3 x hx))
    · obtain ⟨a1, a2, a3⟩ := ir hn2.2.2.1 k hk c hc
      refine ⟨a1, by simp only [BT.pre, List.length_cons, List.length_append]; omega, fun x hx => ?_⟩
      simp only [BT.pre, List.mem_cons, List.mem_append]
      exact .inr (.inr (a3 x hx))
end Go.Proofs.YtcdcheecaphmgaaDoor
