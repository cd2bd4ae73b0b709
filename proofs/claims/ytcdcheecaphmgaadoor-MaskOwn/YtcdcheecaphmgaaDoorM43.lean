import Derived.Test.YtcdcheecaphmgaaDoorM31
import Derived.Test.YtcdcheecaphmgaaDoorM27
import Derived.Test.YtcdcheecaphmgaaDoorM20
import Derived.Deep.Cut
set_option linter.unusedVariables false
set_option linter.unusedSimpArgs false
namespace Go.Proofs.YtcdcheecaphmgaaDoor
open Go.RowKit Go.Shelf
theorem Stp.refl (T : Nat → Prop) (A : World) : Stp T A A := ⟨rfl, rfl, rfl, Nat.le_refl _, fun _ _ _ => rfl⟩
theorem Stp.trans {T : Nat → Prop} {A B C : World} (h : Stp T A B) (k : Stp T B C) : Stp T A C :=
  ⟨k.os.trans h.os, k.tape.trans h.tape, k.output.trans h.output, Nat.le_trans h.size k.size, fun g hg ht => (k.block g (Nat.lt_of_lt_of_le hg h.size) ht).trans (h.block g hg ht)⟩
theorem Stp.of_keep {T : Nat → Prop} {A B : World} (k : Keep A B) : Stp T A B := ⟨k.os, k.tape, k.output, k.size, fun g hg _ => k.block g hg⟩
theorem Stp.mono {T T' : Nat → Prop} {A B : World} (h : Stp T A B) (ht : ∀ g, T g → T' g) : Stp T' A B := ⟨h.os, h.tape, h.output, h.size, fun g hg hn => h.block g hg (fun x => hn (ht g x))⟩
theorem Stp.keep {T : Nat → Prop} {A0 A B : World} (k : Keep A0 A) (h : Stp T A B) (hT : ∀ g, T g → A0.heap.size ≤ g) : Keep A0 B :=
  ⟨h.os.trans k.os, h.tape.trans k.tape, h.output.trans k.output, Nat.le_trans k.size h.size, fun g hg => (h.block g (Nat.lt_of_lt_of_le hg k.size) (fun t => by have := hT g t; omega)).trans (k.block g hg)⟩
theorem Stp.cell {T : Nat → Prop} {A B : World} (h : Stp T A B) {b q : Nat} {v : Value} (hc : A.cell? ⟨b, q, none⟩ = some v) (hb : ¬ T b) : B.cell? ⟨b, q, none⟩ = some v := by
  have := h.block b (World.block_lt_of_cell? _ _ hc) hb
  rw [World.cell?_of_block (a := ⟨b, q, none⟩) this]; exact hc
/-- Masks of one's own are read as they were where nothing of theirs is written. -/
theorem OwnK.rdS {B : Nat} {w : World} {v : Value} {K : List (Nat × Nat)} {ms : List (List Nat)} (h : OwnK B w v K ms) {T : Nat → Prop} {w' : World} (s : Stp T w w') (hT : ∀ g, B ≤ g → g < w.heap.size → ¬ T g) : ∃ a c, v = .slice a ms.length c ∧ RdK w' a ms := by
  have hb : ∀ b, v.ownBlock = some b → ¬ T b := fun b hb => by
    obtain ⟨h1, cur, hh⟩ := own_block h.own hb
    exact hT b h1 (Array.getElem?_eq_some_iff.1 hh).1
  have hown : OwnV B w' v K := own_same h.own (fun b hb' => by obtain ⟨h1, cur, hh⟩ := own_block h.own hb'; exact s.block b (Array.getElem?_eq_some_iff.1 hh).1 (hb b hb'))
  obtain ⟨a, c, hv, hc, hr⟩ := hown.shape
  refine ⟨a, c, by rw [hv, h.kl], ?_⟩
  intro i hi
  obtain ⟨b, o, e, hcell⟩ := hr i (by rw [h.kl]; exact hi)
  obtain ⟨h1, h2, h3⟩ := h.row i hi
  have h4 : Bi.Row w' (K.getD i v0).1 (ms.getD i []) := by
    unfold Bi.Row
    rw [s.block _ h2.lt (hT _ h3 h2.lt)]
    exact h2
  rw [h1] at hcell
  refine ⟨b, o, _, e, hcell, fun k hk => ?_⟩
  exact ⟨_, 0, rfl, by rw [Nat.zero_add]; exact h4.cell k hk⟩
/-- The rows of masks while they are written over: those of the first j hold their number plus one. -/
structure L1 (K : List (Nat × Nat)) (w0 : World) (j : Nat) (rf : Nat → List Nat) (wr : World) : Prop where
  st : Stp (fun g => ∃ i, i < K.length ∧ g = (K.getD i v0).1) w0 wr
  row : ∀ i, i < K.length → Bi.Row wr (K.getD i v0).1 (rf i) ∧ (rf i).length = (K.getD i v0).2
  dn : ∀ i, i < j → rf i = List.replicate (K.getD i v0).2 (i + 1)
theorem L1.write {K : List (Nat × Nat)} {w0 wr : World} {j : Nat} {rf : Nat → List Nat} (h : L1 K w0 j rf wr) (hj : j < K.length) (asc : ∀ i k, i < k → k < K.length → (K.getD i v0).1 < (K.getD k v0).1) (k : Nat) : L1 K w0 j (fun i => if i = j then (rf j).set k (j + 1) else rf i) (wr.setCell ⟨(K.getD j v0).1, k, none⟩ (.int .u64 ((j + 1 : Nat) : Int))) := by
  refine ⟨h.st.trans (Stp.set _ ⟨j, hj, rfl⟩), ?_, ?_⟩
  · intro i hi
    obtain ⟨h1, h2⟩ := h.row i hi
    by_cases e : i = j
    · subst e
      simp only [if_true]
      exact ⟨h1.set k _, by rw [List.length_set]; exact h2⟩
    · simp only [if_neg e]
      refine ⟨?_, h2⟩
      have hne : (K.getD i v0).1 ≠ (K.getD j v0).1 := by
        rcases Nat.lt_or_gt_of_ne e with h3 | h3
        · have := asc i j h3 hj; omega
        · have := asc j i h3 hi; omega
      unfold Bi.Row
      rw [neq_setM _ _ _ _ _ hne]
      exact h1
  · intro i hi
    simp only [if_neg (show ¬ i = j by omega)]
    exact h.dn i hi
theorem L1.next {K : List (Nat × Nat)} {w0 wr : World} {j : Nat} {rf : Nat → List Nat} (h : L1 K w0 j rf wr) (hj : j < K.length) (hall : ∀ q, q < (K.getD j v0).2 → (rf j).getD q 0 = j + 1) : L1 K w0 (j + 1) rf wr := by
  refine ⟨h.st, h.row, ?_⟩
  intro i hi
  by_cases e : i = j
  · subst e
    have hl := (h.row i hj).2
    apply List.ext_getElem
    · rw [hl]; simp
    · intro q h1 h2
      have := hall q (by rw [← hl]; exact h1)
      simp only [List.getElem_replicate]
      simpa [List.getD, h1] using this
  · exact h.dn i (by omega)
/-- The rows' list while each row is grown by three. -/
structure L2 (K : List (Nat × Nat)) (ga : Nat) (w1 : World) (j : Nat) (wr : World) : Prop where
  st : Stp (fun g => g = ga) w1 wr
  out : ∃ cur, wr.heap[ga]? = some (.cells cur 40 (0, 0))
  old : ∀ i, j ≤ i → i < K.length → wr.cell? ⟨ga, i, none⟩ = some (.slice (some ⟨(K.getD i v0).1, 0, none⟩) (K.getD i v0).2 (K.getD i v0).2)
  new : ∀ i, i < j → ∃ g c, wr.cell? ⟨ga, i, none⟩ = some (.slice (some ⟨g, 0, none⟩) ((K.getD i v0).2 + 3) c) ∧ w1.heap.size ≤ g ∧ ∀ k, k < (K.getD i v0).2 → wr.cell? ⟨g, k, none⟩ = some (.int .u64 ((i + 1 : Nat) : Int))
theorem cell_set_ne {w : World} {g q : Nat} {v : Value} {b p : Nat} (h : b ≠ g ∨ p ≠ q) : (w.setCell ⟨g, q, none⟩ v).cell? ⟨b, p, none⟩ = w.cell? ⟨b, p, none⟩ := by
  apply World.cell?_setCell_other
  intro e
  simp only [Addr.mk.injEq, and_true] at e
  omega
theorem L2.next {K : List (Nat × Nat)} {ga : Nat} {w1 wr W : World} {j : Nat} (h : L2 K ga w1 j wr) (hj : j < K.length) (hgl : ga < w1.heap.size) (kW : Keep wr W) {g c : Nat} (hg : w1.heap.size ≤ g) (hcells : ∀ k, k < (K.getD j v0).2 → W.cell? ⟨g, k, none⟩ = some (.int .u64 ((j + 1 : Nat) : Int))) :
    L2 K ga w1 (j + 1) (W.setCell ⟨ga, j, none⟩ (.slice (some ⟨g, 0, none⟩) ((K.getD j v0).2 + 3) c)) := by
  obtain ⟨cur, hcur⟩ := h.out
  have hW : W.heap[ga]? = some (.cells cur 40 (0, 0)) := (kW.block ga (Array.getElem?_eq_some_iff.1 hcur).1).trans hcur
  refine ⟨(h.st.trans (Stp.of_keep kW)).trans (Stp.set _ rfl), ⟨_, heap_setCell_same W ga j cur 40 _ hW⟩, ?_, ?_⟩
  · intro i hi hik
    rw [cell_set_ne (.inr (by omega))]
    exact kW.cell (h.old i (by omega) hik)
  · intro i hi
    by_cases e : i = j
    · subst e
      refine ⟨g, c, by apply World.cell?_setCell_same; exact kW.cell (h.old i (Nat.le_refl _) hj), hg, fun k hk => ?_⟩
      rw [cell_set_ne (.inl (by omega))]
      exact hcells k hk
    · obtain ⟨g2, c2, h1, h2, h3⟩ := h.new i (by omega)
      refine ⟨g2, c2, by rw [cell_set_ne (.inr (by omega))]; exact kW.cell h1, h2, fun k hk => ?_⟩
      rw [cell_set_ne (.inl (by omega))]
      exact kW.cell (h3 k hk)
/-- A row with memory of its own, whatever it holds. -/
def OR (B T z : Nat) (w : World) (v : Value) (n : Nat) : Prop := ∃ l, w.ownsRow B T z v n l
theorem OR.row {B T z : Nat} {w : World} {v : Value} {n : Nat} (h : OR B T z w v n) (hn : 0 < n) : ∃ g cap cur, v = .slice (some ⟨g, 0, none⟩) n cap ∧ B ≤ g ∧ w.heap[g]? = some (.cells cur T (0, 0)) ∧ n ≤ cap ∧ cur.size = cap * z := by
  obtain ⟨l, h1, h2⟩ := h
  rcases h2 with ⟨-, e⟩ | ⟨g, cap, cur, hv, hg, hh, h3, h4, h5, h6⟩
  · omega
  · exact ⟨g, cap, cur, hv, hg, hh, h3, h5⟩
theorem OR.shape {B T z : Nat} {w : World} {v : Value} {n : Nat} (h : OR B T z w v n) : ∃ a c, v = .slice a n c := by
  obtain ⟨l, h1, h2⟩ := h
  rcases h2 with ⟨hv, e⟩ | ⟨g, cap, cur, hv, hg, hh, h3, h4, h5, h6⟩
  · exact ⟨none, 0, by rw [hv, e]⟩
  · exact ⟨_, _, hv⟩
theorem OR.set {B T z : Nat} {w : World} {v : Value} {n g : Nat} (h : OR B T z w v n) (hb : v.ownBlock = some g) (q : Nat) (u : Value) : OR B T z (w.setCell ⟨g, q, none⟩ u) v n := by
  obtain ⟨l, h1, h2⟩ := h
  rcases h2 with ⟨hv, e⟩ | ⟨g', cap, cur, hv, hg, hh, h3, h4, h5, h6⟩
  · rw [hv] at hb; cases hb
  · rw [hv] at hb
    have hb : some g' = some g := hb
    simp only [Option.some.injEq] at hb
    subst hb
    refine ⟨(cur.setIfInBounds q u).toList.take (n * z), ?_, .inr ⟨g', cap, cur.setIfInBounds q u, hv, hg, heap_setCell_same w g' q cur T u hh, h3, h4, by simpa using h5, rfl⟩⟩
    rw [List.length_take]
    simp only [Array.length_toList, Array.size_setIfInBounds, h5]
    exact Nat.min_eq_left (Nat.mul_le_mul_right z h3)
theorem OR.stp {B T z : Nat} {w w' : World} {v : Value} {n : Nat} (h : OR B T z w v n) {S : Nat → Prop} (s : Stp S w w') (hS : ∀ g, v.ownBlock = some g → ¬ S g) : OR B T z w' v n := by
  obtain ⟨l, h1⟩ := h
  exact ⟨l, own_same h1 (fun b hb => by obtain ⟨_, cur, hh⟩ := own_block h1 hb; exact s.block b (Array.getElem?_eq_some_iff.1 hh).1 (hS b hb))⟩
theorem OR.lt {B T z : Nat} {w : World} {v : Value} {n g : Nat} (h : OR B T z w v n) (hb : v.ownBlock = some g) : B ≤ g ∧ g < w.heap.size := by
  obtain ⟨l, h1⟩ := h
  obtain ⟨h2, cur, hh⟩ := own_block h1 hb
  exact ⟨h2, (Array.getElem?_eq_some_iff.1 hh).1⟩
theorem i52o : (Tryd.prog.info? 52).map (fun i => (i.zero, i.size, i.bytes)) = some (some (.agg #[.int .i64 0, .int .i64 0, .int .i64 0]), 3, 24) := by kernel_rfl
/-- append(l, Mark{}, Mark{}). -/
theorem wpList_app52 (B : Nat) (W : World) {ops : Array Oper} {rest : List Oper} {o : Oper} {a : Act} {Q : Exit → Act → World → Prop} (hgd : o.guard = none) (s x : Operand)
    (hop : o.op = .call { callee := .builtin .append, args := #[s, x], argTypes := #[26, 26] }) (n : Nat) (v : Value) (hs : a.eval s = v) (hown : OR B 52 3 (W.alloc (Obj.cells #[.int .i64 0, .int .i64 0, .int .i64 0, .int .i64 0, .int .i64 0, .int .i64 0] 52)) v n) (hB : B ≤ W.heap.size) (g c : Nat) (hx : a.eval x = .slice (some ⟨g, 0, none⟩) 2 c) (hg : W.heap.size = g) (hlen : n ≤ 100000)
    (hK : ∀ a' c' w', (W.alloc (Obj.cells #[.int .i64 0, .int .i64 0, .int .i64 0, .int .i64 0, .int .i64 0, .int .i64 0] 52)).grownBy w' v.ownBlock → wpList Tryd.prog ops Q rest (a.put o.dst (.slice a' (n + 2) c')) w') :
    wpList Tryd.prog ops Q (o :: rest) a (W.alloc (Obj.cells #[.int .i64 0, .int .i64 0, .int .i64 0, .int .i64 0, .int .i64 0, .int .i64 0] 52)) := by
  subst hg
  refine wpList_plain hgd fun K hK' => ?_
  obtain ⟨l, h1⟩ := hown
  obtain ⟨i0, hi, hz0, hz1, hz2⟩ := info_parts i52o
  obtain ⟨v', w', hr, h2, h3, -⟩ := run_append_own (P := Tryd.prog) (W.alloc (Obj.cells #[.int .i64 0, .int .i64 0, .int .i64 0, .int .i64 0, .int .i64 0, .int .i64 0] 52)) B 26 o.type 52 i0 _ 3 24 Tryd.underlying26 hi hz0 hz1 hz2 rfl (by decide) v _ _ h1 ⟨W.heap.size, 0, none⟩ 2 c [.int .i64 0, .int .i64 0, .int .i64 0, .int .i64 0, .int .i64 0, .int .i64 0] rfl (by
    intro j u hj
    rw [Go.WideShapes.add_plain, Nat.zero_add, cell_of_row _ _ _ _ 52 (0, 0) (heap_alloc_new W _)]
    simpa using hj) (by intro u hu; simp at hu; subst hu; rfl) (by simp only [maxLen]; omega) (by omega) (by rw [World.size_alloc]; omega)
  obtain ⟨a', c', hv'⟩ := OR.shape (B := B) ⟨_, h2⟩
  subst hv'
  unfold Oper.wp
  simp [execOp, hop, resolve, invoke, builtin, hs, hx, hr, Result.andThen]
  exact hK' _ _ (hK a' c' w' h3)
end Go.Proofs.YtcdcheecaphmgaaDoor
set_option linter.unusedVariables false
set_option linter.unusedSimpArgs false
namespace Go.Proofs.YtcdcheecaphmgaaDoor
open Go.RowKit Go.Shelf
theorem i53o : (Tryd.prog.info? 53).map (fun i => (i.zero, i.size, i.bytes)) = some (some (.int .u64 0), 1, 8) := by kernel_rfl
/-- append(row, 7, 7, 7), where the row is full: new memory, that holds what the row held. -/
theorem wpList_app7 (w : World) (G lj v : Nat) (hrow : Bi.Row w G (List.replicate lj v)) {ops : Array Oper} {rest : List Oper} {o : Oper} {a : Act} {Q : Exit → Act → World → Prop} (hgd : o.guard = none) (s x : Operand)
    (hop : o.op = .call { callee := .builtin .append, args := #[s, x], argTypes := #[40, 40] }) (hs : a.eval s = .slice (some ⟨G, 0, none⟩) lj lj) (g7 c7 : Nat) (hx : a.eval x = .slice (some ⟨g7, 0, none⟩) 3 c7) (hg7 : w.heap.size = g7) (hlen : lj ≤ 10000)
    (hK : ∀ g c w', Keep w w' → w.heap.size ≤ g → (∀ k, k < lj → w'.cell? ⟨g, k, none⟩ = some (.int .u64 (v : Int))) → wpList Tryd.prog ops Q rest (a.put o.dst (.slice (some ⟨g, 0, none⟩) (lj + 3) c)) w') :
    wpList Tryd.prog ops Q (o :: rest) a (w.alloc (Obj.cells #[.int .u64 7, .int .u64 7, .int .u64 7] 53)) := by
  subst hg7
  refine wpList_plain hgd fun K hK' => ?_
  obtain ⟨i0, hi, hz0, hz1, hz2⟩ := info_parts i53o
  have hlt := hrow.lt
  have k1 : Keep w (w.alloc (Obj.cells #[.int .u64 7, .int .u64 7, .int .u64 7] 53)) := (Keep.refl w).alloc _
  have hr := run_append_grow (P := Tryd.prog) (w.alloc (Obj.cells #[.int .u64 7, .int .u64 7, .int .u64 7] 53)) 40 o.type 53 i0 _ Tryd.underlying40 hi hz0 ⟨G, 0, none⟩ lj lj (List.replicate lj (.int .u64 (v : Int))) (by rw [hz1]; simp) (by
    intro j u hj
    rw [Go.WideShapes.add_plain, Nat.zero_add]
    have hjl : j < lj := by
      have := (List.getElem?_eq_some_iff.1 hj).1
      simpa using this
    have := hrow.cell j (by simpa using hjl)
    rw [k1.cell this]
    simp [hjl] at hj ⊢
    exact hj) ⟨w.heap.size, 0, none⟩ 3 c7 [.int .u64 7, .int .u64 7, .int .u64 7] (by rw [hz1]; rfl) (by
    intro j u hj
    rw [Go.WideShapes.add_plain, Nat.zero_add, cell_of_row _ _ _ _ 53 (0, 0) (heap_alloc_new w _)]
    simpa using hj) (by omega) (by omega) (by
    rw [hz2]
    exact growslice_fits (by omega) (by omega))
  obtain ⟨g, c, w2, hr2, kp, hg, hcell⟩ : ∃ g c w2, (Builtin.append_ #[40, 40] o.type #[.slice (some ⟨G, 0, none⟩) lj lj, .slice (some ⟨w.heap.size, 0, none⟩) 3 c7]).run Tryd.prog (w.alloc (Obj.cells #[.int .u64 7, .int .u64 7, .int .u64 7] 53)) = .ok (.slice (some ⟨g, 0, none⟩) (lj + 3) c) w2 ∧ Keep w w2 ∧ w.heap.size ≤ g ∧ ∀ k, k < lj → w2.cell? ⟨g, k, none⟩ = some (.int .u64 (v : Int)) := by
    refine ⟨_, _, _, hr, (k1.drew).alloc _, by rw [World.size_alloc]; omega, ?_⟩
    intro k hk
    have h1 := heap_alloc_new (w.alloc (Obj.cells #[.int .u64 7, .int .u64 7, .int .u64 7] 53)).drew (Obj.cells ((List.replicate lj (.int .u64 (v : Int))).toArray ++ [Value.int .u64 7, .int .u64 7, .int .u64 7].toArray ++ Builtin.zeroCells (Value.int .u64 0).cells (grownCap (w.alloc (Obj.cells #[.int .u64 7, .int .u64 7, .int .u64 7] 53)) (lj + 3) lj 53 - (lj + 3))) 53)
    rw [World.size_drew] at h1
    rw [cell_of_row _ _ k _ 53 (0, 0) h1, Array.append_assoc, Array.getElem?_append_left (by simpa using hk)]
    simp [hk]
  unfold Oper.wp
  simp [execOp, hop, resolve, invoke, builtin, hs, hx, hr2, Result.andThen]
  exact hK' _ _ (hK _ _ _ kp hg hcell)
end Go.Proofs.YtcdcheecaphmgaaDoor
set_option linter.unusedVariables false
set_option linter.unusedSimpArgs false
namespace Go.Proofs.YtcdcheecaphmgaaDoor
open Go.RowKit Go.Shelf
theorem OR.at {B T z : Nat} {w : World} {a : Option Addr} {c n : Nat} (h : OR B T z w (.slice a n c) n) (hn : 0 < n) : ∃ g, a = some ⟨g, 0, none⟩ ∧ B ≤ g ∧ g < w.heap.size ∧ (∀ q, w.frozen? ⟨g, q, none⟩ = false) ∧ ∀ q, q < n * z → ∃ u, w.cell? ⟨g, q, none⟩ = some u := by
  obtain ⟨g, cap, cur, hv, hg, hh, h3, h5⟩ := h.row hn
  simp only [Value.slice.injEq, true_and] at hv
  obtain ⟨rfl, rfl⟩ := hv
  refine ⟨g, rfl, hg, (Array.getElem?_eq_some_iff.1 hh).1, fun q => frozen_of_row w g q _ T hh, fun q hq => ?_⟩
  have hlt : q < cur.size := by rw [h5]; exact Nat.lt_of_lt_of_le hq (Nat.mul_le_mul_right z h3)
  exact ⟨cur[q], by rw [cell_of_row w g q cur T (0, 0) hh]; simp [hlt]⟩
theorem lvG_zero {L : List Nd} {m : Nat} (h : lvG L m = 0) : lvE L = 0 := by
  unfold lvG at h
  by_cases hE : lvE L = 0
  · exact hE
  · rw [if_pos hE] at h; exact absurd h hE
theorem false_few {L : List Nd} {xs : List Nat} {l : List (Nat × Nat × Nat)} (h1 : lvG L xs.length ≠ 0 → l = []) (h2 : ∀ b, lvG L xs.length = 0 → Bt (shp L) b 0 → l = flm L xs (b.mks 0)) : l.length ≤ 4096 := by
  by_cases h : lvG L xs.length = 0
  · obtain ⟨-, -, -, b, hb, -, hn⟩ := lvE_ok (lvG_zero h)
    rw [h2 b h hb]
    have h3 := b.mks_len 0
    have h4 : (flm L xs (b.mks 0)).length ≤ (b.mks 0).length := List.length_filter_le _ _
    omega
  · rw [h1 h]; simp
theorem reach_or {L : List Nd} {xs : List Nat} {w w' : World} {v : Value} (h1 : lvG L xs.length ≠ 0 → v = .slice none 0 0) (h2 : ∀ b, lvG L xs.length = 0 → Bt (shp L) b 0 → ∃ l g, v = .slice (some ⟨g, 0, none⟩) (l : List Nat).length l.length ∧ w.heap.size ≤ g ∧ Bi.Row w' g l ∧ Bi.mkl b.nl (lftF (flm L xs (b.mks 0))) l) : ∃ a n c, v = .slice a n c ∧ n ≤ 10000 ∧ OR w.heap.size 53 1 w' (.slice a n c) n := by
  by_cases h : lvG L xs.length = 0
  · obtain ⟨-, -, -, b, hb, -, hn⟩ := lvE_ok (lvG_zero h)
    obtain ⟨l, g, e, hg, hr, hm⟩ := h2 b h hb
    have hl : l.length ≤ 10000 := by rw [hm.1]; omega
    exact ⟨_, _, _, e, hl, Bi.U l, by simp [Bi.U], .inr ⟨g, l.length, (Bi.U l).toArray, rfl, hg, hr, Nat.le_refl _, by simp only [maxLen]; omega, by simp [Bi.U], by rw [List.take_of_length_le (by simp [Bi.U])]⟩⟩
  · exact ⟨_, _, _, h1 h, by omega, [], rfl, .inl ⟨rfl, rfl⟩⟩
theorem OR.of {B T z : Nat} {w : World} {v : Value} {n : Nat} {l : List Value} (h : w.ownsRow B T z v n l) : OR B T z w v n := ⟨l, h⟩
end Go.Proofs.YtcdcheecaphmgaaDoor
set_option linter.unusedVariables false
set_option linter.unusedSimpArgs false
namespace Go.Proofs.YtcdcheecaphmgaaDoor
open Go.RowKit Go.Shelf
/-- Where the list of rows lies. -/
theorem OwnK.outer {B : Nat} {w : World} {a : Option Addr} {c : Nat} {K : List (Nat × Nat)} {ms : List (List Nat)} (h : OwnK B w (.slice a K.length c) K ms) : ∃ ga, 0 < K.length → a = some ⟨ga, 0, none⟩ ∧ (∃ cur, w.heap[ga]? = some (.cells cur 40 (0, 0))) ∧ B ≤ ga ∧ (∀ i, i < K.length → w.cell? ⟨ga, i, none⟩ = some (.slice (some ⟨(K.getD i v0).1, 0, none⟩) (K.getD i v0).2 (K.getD i v0).2)) ∧ ∀ i, i < K.length → (K.getD i v0).1 ≠ ga := by
  rcases h.own.2 with ⟨h1, h2⟩ | ⟨g, cap, cur, hv, hg, hh, h1, h2, h3, h4⟩
  · exact ⟨0, fun h => by omega⟩
  · simp only [Value.slice.injEq, true_and] at hv
    obtain ⟨rfl, rfl⟩ := hv
    refine ⟨g, fun _ => ⟨rfl, ⟨cur, hh⟩, hg, ?_, ?_⟩⟩
    · intro i hi
      have e1 : cur.toList[i]? = (UV K)[i]? := by rw [← h4, List.getElem?_take, if_pos (by omega)]
      rw [cell_of_row w g _ cur 40 (0, 0) hh, ← UV_get K i hi, ← e1]; simp
    · intro i hi e
      have := (h.row i (by rw [← h.kl]; exact hi)).2.1
      unfold Bi.Row at this
      rw [e, hh] at this
      simp at this
set_option maxRecDepth 100000 in
set_option maxHeartbeats 8000000 in
theorem law_own (a ax : Option Addr) (cap cx : Nat) (out : Int) (L : List Nd) (xs : List Nat) (hL : L.length ≤ 1759218604441) (hxl : xs.length ≤ 17592186044416) (w : World) (hTab : Bi.Tab w) (hrd : RdN w a L) (hxd : RdF w ax xs) :
    Calls Tryd.prog 8 #[.agg #[.int .i64 out, .slice a L.length cap], .slice ax xs.length cx] w fun e w' => e = .returned (.bool true) ∧ Keep w w' := by
  have hLn : L.length ≤ 2199023255552 := by omega
  obtain ⟨w1, hw1, k1, tb⟩ : ∃ w1, w.alloc (Obj.cells #[Value.int IntKind.i64 out, Value.slice a L.length cap] 24) = w1 ∧ Keep w w1 ∧ w1.heap[w.heap.size]? = some (Obj.cells #[Value.int IntKind.i64 out, Value.slice a L.length cap] 24 (0, 0)) := ⟨_, rfl, (Keep.refl w).alloc _, heap_alloc_new w _⟩
  have x0 := cell_of_row _ _ 0 _ 24 (0, 0) tb
  have x1 := cell_of_row _ _ 1 _ 24 (0, 0) tb
  simp only [List.getElem?_toArray, List.getElem?_cons_zero, List.getElem?_cons_succ] at x0 x1
  have hz1 : w.heap.size < w1.heap.size := (Array.getElem?_eq_some_iff.1 tb).1
  have h14 := lives_any w1 (hTab.keep k1)
  have h12 := fun (wx : World) (k : Keep w1 wx) => Masks_own a cap out L hLn wx (hrd.keep (k1.trans k))
  have h10 := fun (wx : World) (k : Keep w1 wx) => Marks_any a cap out L hLn wx (hrd.keep (k1.trans k))
  have h18 := fun (wx : World) (k : Keep w1 wx) => False_any a ax cap cx out L xs hLn hxl wx (hrd.keep (k1.trans k)) (hxd.keep (k1.trans k))
  have h13 : Hid _ := fun (wx : World) (k : Keep w1 wx) => rMasks_any a cap out L hLn wx (hrd.keep (k1.trans k))
  have h3 : Hid _ := fun (wx : World) (k : Keep w1 wx) => law_marks a cap out L hL wx (hTab.keep (k1.trans k)) (hrd.keep (k1.trans k))
  have h4 : Hid _ := fun (wx : World) (k : Keep w1 wx) => law_false a ax cap cx out L xs hLn hxl wx (hTab.keep (k1.trans k)) (hrd.keep (k1.trans k)) (hxd.keep (k1.trans k))
  have h20 := fun (wx : World) (k : Keep w1 wx) => Reach_any a ax cap cx out L xs hLn hxl wx (hrd.keep (k1.trans k)) (hxd.keep (k1.trans k))
  replace hw1 : Hid _ := hw1
  clear tb
  go_enter Tryd.func8, Tryd.ntmps8
  go_upto_region 1 with fail
  rw [hw1.out]
  go_upto_region 4 with (first
    | (go_at_call 14; refine h14.mono ?_; rintro e w2 ⟨rfl, k2⟩; have y0 := k2.cell x0; have y1 := k2.cell x1)
    | (go_at_call 12; refine (h12 _ k2).mono ?_; rintro e w3 ⟨v3, K3, m3, rfl, o3, q3, k3⟩; have k13 := k2.trans k3; have z0 := k13.cell x0; have z1 := k13.cell x1; obtain ⟨a3, c3, rfl, -, -⟩ := o3.own.shape))
  go_upto_region 5 with (go_at_call 12; refine (h12 _ k13).mono ?_; rintro e w4 ⟨v4, K4, m4, rfl, o4, q4, k4⟩; have k14 := k13.trans k4; have s0 := k14.cell x0; have s1 := k14.cell x1; obtain ⟨a4, c4, rfl, -, -⟩ := o4.own.shape)
  go_upto_region 8 with (first
    | (go_at_call 10; refine (h10 _ k14).mono ?_; rintro e w5 ⟨v5, l5, rfl, o5, e5, e5', k5⟩; have k15 := k14.trans k5; have t0 := k15.cell x0; have t1 := k15.cell x1; obtain ⟨a5, c5, rfl, -, -⟩ := o5.shape)
    | (go_at_call 18; refine (h18 _ k15).mono ?_; rintro e w6 ⟨v6, l6, rfl, o6, e6, e6', k6⟩; have k16 := k15.trans k6; have p0 := k16.cell x0; have p1 := k16.cell x1; obtain ⟨a6, c6, rfl, -, -⟩ := o6.shape)
    | (go_at_call 20; refine (h20 _ k16).mono ?_; rintro e w7 ⟨v7, rfl, e7, e7', k7⟩; have k17 := k16.trans k7))
  obtain ⟨hm3, hm3'⟩ := ms_few q3
  obtain ⟨a7, n7, c7, rfl, hn7, o7⟩ := reach_or e7 e7'
  have hn5 : l5.length ≤ 4096 := (marks_eq e5 e5' e5 e5').2
  have hn6 : l6.length ≤ 4096 := false_few e6 e6'
  obtain ⟨ga, hga⟩ := o3.outer
  have kA7 : Keep w3 w7 := ((k4.trans k5).trans k6).trans k7
  have asc := o3.asc
  have hlen : ∀ i, i < K3.length → (K3.getD i v0).2 ≤ 10000 := fun i hi => by rw [(o3.row i (by rw [← o3.kl]; exact hi)).1]; exact hm3' i (by rw [← o3.kl]; exact hi)
  have hn3 : K3.length ≤ 10000 := by rw [o3.kl]; exact hm3
  have I0 : L1 K3 w7 0 (fun i => m3.getD i []) w7 := ⟨Stp.refl _ _, fun i hi => ⟨(o3.row i (by rw [← o3.kl]; exact hi)).2.1.keep kA7, (o3.row i (by rw [← o3.kl]; exact hi)).1.symm⟩, fun i hi => by omega⟩
  replace I0 : Hid _ := I0
  replace hga : Hid _ := hga
  replace e7' : Hid _ := e7'
  replace e6' : Hid _ := e6'
  replace e5' : Hid _ := e5'
  replace e7 : Hid _ := e7
  replace e6 : Hid _ := e6
  replace e5 : Hid _ := e5
  replace q3 : Hid _ := q3
  replace q4 : Hid _ := q4
  replace asc : Hid _ := asc
  replace hlen : Hid _ := hlen
  replace hm3' : Hid _ := hm3'
  clear h10 h12 h14 h18 h20
  go_wp2_with fail
  go_loopw [56] (fun i wr => ∃ (j : Nat) (rf : Nat → List Nat), j ≤ K3.length ∧ i = .int .i64 j ∧ L1 K3 w7 j rf wr) (fun i _ => K3.length - (intOf i).toNat)
  case atStart => exact ⟨0, _, by omega, rfl, I0.out⟩
  case round =>
    obtain ⟨j, rf, hj, rfl, hI⟩ := hrel
    by_cases hjl : j < K3.length
    · have hjc : (j : Int) < (K3.length : Int) := by omega
      obtain ⟨hae, ⟨cur, hcur⟩, hgb, hgc, hgn⟩ := hga.out (by omega)
      subst hae
      have hnT : ¬ ∃ i, i < K3.length ∧ ga = (K3.getD i v0).1 := fun ⟨i, hi, e⟩ => hgn i hi e.symm
      have gj := hI.st.cell (kA7.cell (hgc j hjl)) hnT
      have gjK := kA7.cell (hgc j hjl)
      have hlj := hlen.out j hjl
      obtain ⟨wo, hwo⟩ : ∃ wo, wo = wr := ⟨_, rfl⟩
      subst hwo
      obtain ⟨G, lj, hG⟩ : ∃ G lj, K3.getD j v0 = (G, lj) := ⟨_, _, rfl⟩
      rw [hG] at gj gjK hlj
      simp only at gj gjK hlj
      replace hgc : Hid _ := hgc
      replace hgn : Hid _ := hgn
      replace hG : Hid _ := hG
      go_wp2_with fail
      go_loopw [64] (fun i wr => ∃ (k : Nat) (rf : Nat → List Nat), k ≤ lj ∧ i = .int .i64 k ∧ L1 K3 w7 j rf wr ∧ ∀ q, q < k → (rf j).getD q 0 = j + 1) (fun i _ => lj - (intOf i).toNat)
      case atStart => exact ⟨0, rf, by omega, rfl, hI, fun q hq => by omega⟩
      case round =>
        obtain ⟨k, rf2, hk, rfl, hI2, hq⟩ := hrel
        by_cases hkl : k < lj
        · have gj2 := hI2.st.cell gjK hnT
          obtain ⟨r1, r2⟩ := hI2.row j hjl
          have c1 := r1.cell k (by rw [r2, hG.out]; exact hkl)
          have fz := r1.frozen k
          have HW := hI2.write hjl asc.out k
          rw [hG.out] at c1 fz HW
          simp only at c1 fz HW
          have hkc : (k : Int) < (lj : Int) := by omega
          have HQ : Hid (∀ q, q < k + 1 → ((rf2 j).set k (j + 1)).getD q 0 = j + 1) := by
            intro q hq2
            by_cases e : q = k
            · have hkr : k < (rf2 j).length := by rw [r2, hG.out]; exact hkl
              subst e; simp [List.getD, hkr]
            · have := hq q (by omega)
              simp only [List.getD, List.getElem?_set, if_neg (Ne.symm e)] at this ⊢
              exact this
          replace HW : Hid _ := HW
          replace hq : Hid _ := hq
          replace r1 : Hid _ := r1
          replace r2 : Hid _ := r2
          replace gj : Hid _ := gj
          go_wp2_with fail
          exact ⟨⟨k + 1, _, by omega, by go_num, HW.out, fun q hq => by simp only [if_true]; exact HQ.out q hq⟩, by simp [intOf]; omega⟩
        · have hkc : ¬ (k : Int) < (lj : Int) := by omega
          obtain rfl : k = lj := by omega
          go_wp2_with fail
          exact ⟨⟨j + 1, rf2, by omega, by go_num, hI2.next hjl (by rw [hG.out]; exact hq)⟩, by simp [intOf]; omega⟩
    · have hjc : ¬ (j : Int) < (K3.length : Int) := by omega
      obtain rfl : j = K3.length := by omega
      obtain ⟨wA, hwA⟩ : ∃ wA, wA = wr := ⟨_, rfl⟩
      subst hwA
      have hrows : Hid (∀ i, i < K3.length → Bi.Row wA (K3.getD i v0).1 (List.replicate (K3.getD i v0).2 (i + 1))) := fun i hi => by rw [← hI.dn i hi]; exact (hI.row i hi).1
      have hsA := hI.st
      have hzA : w7.heap.size ≤ wA.heap.size := hsA.size
      have J0 : Hid (0 < K3.length → L2 K3 ga wA 0 wA) := fun h0 => by
        obtain ⟨hae, ⟨cur, hcur⟩, hgb, hgc, hgn⟩ := hga.out h0
        have hnT : ¬ ∃ i, i < K3.length ∧ ga = (K3.getD i v0).1 := fun ⟨i, hi, e⟩ => hgn i hi e.symm
        have h7 := (kA7.block ga (Array.getElem?_eq_some_iff.1 hcur).1).trans hcur
        exact ⟨Stp.refl _ _, ⟨cur, (hsA.block ga (Array.getElem?_eq_some_iff.1 h7).1 hnT).trans h7⟩, fun i _ hi => hsA.cell (kA7.cell (hgc i hi)) hnT, fun i hi => by omega⟩
      clear hI I0
      go_wp2_with fail
      go_loopw [80] (fun i wr => ∃ j : Nat, j ≤ K3.length ∧ i = .int .i64 j ∧ Stp (fun g => 0 < K3.length ∧ g = ga) wA wr ∧ (0 < K3.length → L2 K3 ga wA j wr)) (fun i _ => K3.length - (intOf i).toNat)
      case atStart => exact ⟨0, by omega, rfl, Stp.refl _ _, J0.out⟩
      case round =>
        obtain ⟨j, hj, rfl, hst, hJ⟩ := hrel
        by_cases hjl : j < K3.length
        · have hjc : (j : Int) < (K3.length : Int) := by omega
          have hJ := hJ (by omega)
          obtain ⟨hae, ⟨cur, hcur⟩, hgb, hgc, hgn⟩ := hga.out (by omega)
          subst hae
          have g3 : ga < wA.heap.size := by
            have h7 := (Array.getElem?_eq_some_iff.1 ((kA7.block ga (Array.getElem?_eq_some_iff.1 hcur).1).trans hcur)).1
            omega
          have gj := hJ.old j (Nat.le_refl _) hjl
          obtain ⟨cu2, hcu2⟩ := hJ.out
          have fz := frozen_of_row wr ga j _ 40 hcu2
          have hlj := hlen.out j hjl
          have hrow : Bi.Row wr (K3.getD j v0).1 (List.replicate (K3.getD j v0).2 (j + 1)) := by
            unfold Bi.Row
            rw [hJ.st.block _ (hrows.out j hjl).lt (hgn j hjl)]
            exact hrows.out j hjl
          obtain ⟨wo, hwo⟩ : ∃ wo, wo = wr := ⟨_, rfl⟩
          subst hwo
          have HN : Hid _ := fun W kW g c hg hc => hJ.next hjl g3 (W := W) kW (g := g) (c := c) hg hc
          obtain ⟨G, lj, hG⟩ : ∃ G lj, K3.getD j v0 = (G, lj) := ⟨_, _, rfl⟩
          rw [hG] at gj hlj hrow HN
          simp only at gj hlj hrow HN
          replace hgc : Hid _ := hgc
          replace hgn : Hid _ := hgn
          replace hG : Hid _ := hG
          replace hrow : Hid _ := hrow
          go_wp2_with (at_builtin; refine wpList_app7 wo G lj (j + 1) hrow.out rfl _ _ rfl rfl _ _ rfl rfl hlj ?_; intro g8 c8 w8 k8 hg8 hc8; have gz := k8.block ga (Array.getElem?_eq_some_iff.1 hcu2).1; rw [hcu2] at gz; have fz8 := frozen_of_row w8 ga j _ 40 gz; have gj8 := k8.cell gj; have HN8 : Hid _ := HN.out w8 k8 g8 c8 (Nat.le_trans hJ.st.size hg8) hc8; have ST8 : Hid _ := (hst.trans (Stp.of_keep k8)).trans (Stp.set (A := w8) (T := fun g => 0 < K3.length ∧ g = ga) (g := ga) (j := j) (.slice (some ⟨g8, 0, none⟩) (lj + 3) c8) ⟨by omega, rfl⟩))
          exact ⟨⟨j + 1, by omega, by go_num, ST8.out, fun _ => HN8.out⟩, by simp [intOf]; omega⟩
        · have hjc : ¬ (j : Int) < (K3.length : Int) := by omega
          obtain rfl : j = K3.length := by omega
          obtain ⟨wB, hwB⟩ : ∃ wB, wB = wr := ⟨_, rfl⟩
          subst hwB
          have SB : Stp (fun g => w2.heap.size ≤ g ∧ g < w3.heap.size) w7 wB := (hsA.mono (fun g ⟨i, hi, e⟩ => by subst e; have r := o3.row i (by rw [← o3.kl]; exact hi); exact ⟨r.2.2, r.2.1.lt⟩)).trans (hst.mono (fun g ⟨h0, e⟩ => by subst e; obtain ⟨_, ⟨cur, hcur⟩, hgb, _⟩ := hga.out h0; exact ⟨hgb, (Array.getElem?_eq_some_iff.1 hcur).1⟩))
          have z34 := k4.size
          have z45 := k5.size
          have z56 := k6.size
          have z67 := k7.size
          have om : OR w4.heap.size 52 3 wB (.slice a5 l5.length c5) l5.length := (OR.of o5).stp ((Stp.of_keep (k6.trans k7)).trans SB) (fun g hb => by have := (OR.of o5).lt hb; omega)
          have of : OR w5.heap.size 52 3 wB (.slice a6 l6.length c6) l6.length := (OR.of o6).stp ((Stp.of_keep k7).trans SB) (fun g hb => by have := (OR.of o6).lt hb; omega)
          have or : OR w6.heap.size 53 1 wB (.slice a7 n7 c7) n7 := o7.stp SB (fun g hb => by have := o7.lt hb; omega)
          have bm : ∀ g, (Value.slice a5 l5.length c5).ownBlock = some g → w4.heap.size ≤ g ∧ g < w5.heap.size := fun g e => (OR.of o5).lt e
          have bf : ∀ g, (Value.slice a6 l6.length c6).ownBlock = some g → w5.heap.size ≤ g ∧ g < w6.heap.size := fun g e => (OR.of o6).lt e
          have br : ∀ g, (Value.slice a7 n7 c7).ownBlock = some g → w6.heap.size ≤ g ∧ g < w7.heap.size := fun g e => o7.lt e
          clear hst hsA J0 hrows hjl
          replace om : Hid _ := om
          replace of : Hid _ := of
          replace or : Hid _ := or
          replace bm : Hid _ := bm
          replace bf : Hid _ := bf
          replace br : Hid _ := br
          go_wp2_with fail
          go_loopw [95] (fun i wr => ∃ j : Nat, j ≤ l5.length ∧ i = .int .i64 j ∧ Stp (fun g => w4.heap.size ≤ g ∧ g < w5.heap.size) wB wr ∧ OR w4.heap.size 52 3 wr (.slice a5 l5.length c5) l5.length) (fun i _ => l5.length - (intOf i).toNat)
          case atStart => exact ⟨0, by omega, rfl, Stp.refl _ _, om.out⟩
          case round =>
            obtain ⟨j, hj, rfl, hst, hO⟩ := hrel
            by_cases hjl : j < l5.length
            · have hjc : (j : Int) < (l5.length : Int) := by omega
              obtain ⟨g, rfl, hg, hgl, fz, cc⟩ := hO.at (by omega)
              obtain ⟨u0, c0⟩ := cc (j * 3) (by omega)
              obtain ⟨u1, c1⟩ := cc (j * 3 + 1) (by omega)
              obtain ⟨u2, c2⟩ := cc (j * 3 + 2) (by omega)
              obtain ⟨wo, hwo⟩ : ∃ wo, wo = wr := ⟨_, rfl⟩
              subst hwo
              replace cc : Hid _ := cc
              have hin := bm.out g rfl
              replace hin : Hid _ := hin
              go_wp2_with fail
              exact ⟨⟨j + 1, by omega, by go_num, ((hst.trans (Stp.set _ hin.out)).trans (Stp.set _ hin.out)).trans (Stp.set _ hin.out), ((hO.set rfl _ _).set rfl _ _).set rfl _ _⟩, by simp [intOf]; omega⟩
            · have hjc : ¬ (j : Int) < (l5.length : Int) := by omega
              obtain rfl : j = l5.length := by omega
              obtain ⟨wC, hwC⟩ : ∃ wC, wC = wr := ⟨_, rfl⟩
              subst hwC
              have SC := hst
              replace om : Hid _ := hO
              replace of := (show OR w5.heap.size 52 3 wB (.slice a6 l6.length c6) l6.length from of.out).stp SC (fun g hb => by have := bf.out g hb; omega)
              replace or := (show OR w6.heap.size 53 1 wB (.slice a7 n7 c7) n7 from or.out).stp SC (fun g hb => by have := br.out g hb; omega)
              replace of : Hid _ := of
              replace or : Hid _ := or
              clear hst hO hjl
              go_wp2_with fail
              go_loopw [105] (fun i wr => ∃ j : Nat, j ≤ l6.length ∧ i = .int .i64 j ∧ Stp (fun g => w5.heap.size ≤ g ∧ g < w6.heap.size) wC wr ∧ OR w5.heap.size 52 3 wr (.slice a6 l6.length c6) l6.length) (fun i _ => l6.length - (intOf i).toNat)
              case atStart => exact ⟨0, by omega, rfl, Stp.refl _ _, of.out⟩
              case round =>
                obtain ⟨j, hj, rfl, hst, hO⟩ := hrel
                by_cases hjl : j < l6.length
                · have hjc : (j : Int) < (l6.length : Int) := by omega
                  obtain ⟨g, rfl, hg, hgl, fz, cc⟩ := hO.at (by omega)
                  obtain ⟨u0, c0⟩ := cc (j * 3) (by omega)
                  obtain ⟨u1, c1⟩ := cc (j * 3 + 1) (by omega)
                  obtain ⟨u2, c2⟩ := cc (j * 3 + 2) (by omega)
                  obtain ⟨wo, hwo⟩ : ∃ wo, wo = wr := ⟨_, rfl⟩
                  subst hwo
                  replace cc : Hid _ := cc
                  have hin := bf.out g rfl
                  replace hin : Hid _ := hin
                  go_wp2_with fail
                  exact ⟨⟨j + 1, by omega, by go_num, ((hst.trans (Stp.set _ hin.out)).trans (Stp.set _ hin.out)).trans (Stp.set _ hin.out), ((hO.set rfl _ _).set rfl _ _).set rfl _ _⟩, by simp [intOf]; omega⟩
                · have hjc : ¬ (j : Int) < (l6.length : Int) := by omega
                  obtain rfl : j = l6.length := by omega
                  obtain ⟨wD, hwD⟩ : ∃ wD, wD = wr := ⟨_, rfl⟩
                  subst hwD
                  have SD := hst
                  replace of : Hid _ := hO
                  replace om := (show OR w4.heap.size 52 3 wC (.slice a5 l5.length c5) l5.length from om.out).stp SD (fun g hb => by have := bm.out g hb; omega)
                  replace or := (show OR w6.heap.size 53 1 wC (.slice a7 n7 c7) n7 from or.out).stp SD (fun g hb => by have := br.out g hb; omega)
                  replace om : Hid _ := om
                  replace or : Hid _ := or
                  clear hst hO hjl
                  go_wp2_with fail
                  go_loopw [115] (fun i wr => ∃ j : Nat, j ≤ n7 ∧ i = .int .i64 j ∧ Stp (fun g => w6.heap.size ≤ g ∧ g < w7.heap.size) wD wr ∧ OR w6.heap.size 53 1 wr (.slice a7 n7 c7) n7) (fun i _ => n7 - (intOf i).toNat)
                  case atStart => exact ⟨0, by omega, rfl, Stp.refl _ _, or.out⟩
                  case round =>
                    obtain ⟨j, hj, rfl, hst, hO⟩ := hrel
                    by_cases hjl : j < n7
                    · have hjc : (j : Int) < (n7 : Int) := by omega
                      obtain ⟨g, rfl, hg, hgl, fz, cc⟩ := hO.at (by omega)
                      obtain ⟨u0, c0⟩ := cc j (by omega)
                      obtain ⟨wo, hwo⟩ : ∃ wo, wo = wr := ⟨_, rfl⟩
                      subst hwo
                      replace cc : Hid _ := cc
                      have hin := br.out g rfl
                      replace hin : Hid _ := hin
                      go_wp2_with fail
                      exact ⟨⟨j + 1, by omega, by go_num, hst.trans (Stp.set _ hin.out), hO.set rfl _ _⟩, by simp [intOf]; omega⟩
                    · have hjc : ¬ (j : Int) < (n7 : Int) := by omega
                      obtain rfl : j = n7 := by omega
                      obtain ⟨wE, hwE⟩ : ∃ wE, wE = wr := ⟨_, rfl⟩
                      subst hwE
                      have SE := hst
                      replace om := (show OR w4.heap.size 52 3 wD (.slice a5 l5.length c5) l5.length from om.out).stp SE (fun g hb => by have := bm.out g hb; omega)
                      replace of := (show OR w5.heap.size 52 3 wD (.slice a6 l6.length c6) l6.length from of.out).stp SE (fun g hb => by have := bf.out g hb; omega)
                      replace om : Hid _ := om
                      replace of : Hid _ := of
                      clear hst hO hjl or
                      replace hJ : Hid _ := hJ
                      have zE : w7.heap.size ≤ wE.heap.size := by have := SB.size; have := SC.size; have := SD.size; have := SE.size; omega
                      go_wp2_with (first
                        | (at_builtin; refine wpList_app52 w4.heap.size wE rfl _ _ rfl _ _ rfl (OR.stp (T := 52) (z := 3) om.out (Stp.of_keep (T := fun _ => False) ((Keep.refl wE).alloc _)) (fun _ _ h => h)) (by omega) _ _ rfl rfl (by omega) ?_; intro a8 c8 w8 g8; have SF : Stp (fun g => w4.heap.size ≤ g ∧ g < w5.heap.size) wE w8 := (Stp.of_keep ((Keep.refl wE).alloc _)).trans (Stp.grown g8 (fun b hb => bm.out b hb)); have of8 : Hid _ := OR.stp (T := 52) (z := 3) of.out SF (fun g hb => by have := bf.out g hb; omega); have z8 := SF.size; replace SF : Hid _ := SF)
                        | (at_builtin; refine wpList_app52 w5.heap.size w8 rfl _ _ rfl _ _ rfl (OR.stp (T := 52) (z := 3) of8.out (Stp.of_keep (T := fun _ => False) ((Keep.refl w8).alloc _)) (fun _ _ h => h)) (by omega) _ _ rfl rfl (by omega) ?_; intro a9 c9 wG g9
                           have SG : Stp (fun g => w5.heap.size ≤ g ∧ g < w6.heap.size) w8 wG := (Stp.of_keep ((Keep.refl w8).alloc _)).trans (Stp.grown g9 (fun b hb => bf.out b hb))
                           have SBG : Stp (fun g => w4.heap.size ≤ g ∧ g < w7.heap.size) wB wG := ((((SC.mono (fun g h => ⟨h.1, by omega⟩)).trans (SD.mono (fun g h => ⟨by omega, by omega⟩))).trans (SE.mono (fun g h => ⟨by omega, h.2⟩))).trans (SF.out.mono (fun g h => ⟨h.1, by omega⟩))).trans (SG.mono (fun g h => ⟨by omega, by omega⟩))
                           have ST : Stp (fun g => w2.heap.size ≤ g ∧ ¬ (w3.heap.size ≤ g ∧ g < w4.heap.size)) w7 wG := (SB.mono (fun g h => ⟨h.1, by omega⟩)).trans (SBG.mono (fun g h => ⟨by have := k3.size; omega, by omega⟩))
                           have kG : Keep w1 wG := Stp.keep k17 ST (fun g h => by have := k2.size; omega)
                           have RB : Hid _ := o4.rdS ((Stp.of_keep ((k5.trans k6).trans k7)).trans ST) (fun g h1 h2 h3 => h3.2 ⟨h1, h2⟩)
                           have AF : Hid (∀ i, i < K3.length → ∃ g c, wG.cell? ⟨ga, i, none⟩ = some (.slice (some ⟨g, 0, none⟩) ((K3.getD i v0).2 + 3) c) ∧ ∀ k, k < (K3.getD i v0).2 → wG.cell? ⟨g, k, none⟩ = some (.int .u64 ((i + 1 : Nat) : Int))) := fun i hi => by
                             obtain ⟨g, c, f1, f2, f3⟩ := (hJ.out (by omega)).new i hi
                             obtain ⟨_, ⟨cur, hcur⟩, hgb, _⟩ := hga.out (by omega)
                             have hgl := (Array.getElem?_eq_some_iff.1 hcur).1
                             exact ⟨g, c, SBG.cell f1 (by omega), fun k hk => SBG.cell (f3 k hk) (by omega)⟩
                           have x0G := kG.cell x0
                           have x1G := kG.cell x1
                           replace SBG : Hid _ := SBG
                           replace ST : Hid _ := ST)
                        | (go_at_call 13; refine (h13.out wG kG).mono ?_; rintro e wH ⟨av, cv, ms, rfl, rK, qs, kH⟩; have kW := kG.trans kH))
                      have hms : ms = m3 := MsOk.one qs q3.out
                      have hm4 : m4 = m3 := MsOk.one q4.out q3.out
                      have hkl3 : K3.length = m3.length := o3.kl
                      have hkr3 : Hid (∀ i, i < K3.length → (K3.getD i v0).2 = (m3.getD i []).length) := fun i hi => (o3.row i (by rw [← hkl3]; exact hi)).1
                      subst hms
                      obtain ⟨a4', c4', e4, rb⟩ := RB.out
                      simp only [Value.slice.injEq] at e4
                      obtain ⟨rfl, hk4, rfl⟩ := e4
                      subst hm4
                      have rb2 := rb.keep kH
                      replace rb : Hid _ := rb
                      replace rb2 : Hid _ := rb2
                      replace rK : Hid _ := rK
                      replace qs : Hid _ := qs
                      go_loopw [139] (fun i wr => Keep wH wr ∧ ∃ j : Nat, j ≤ m4.length ∧ i = .int .i64 j) (fun i _ => m4.length - (intOf i).toNat)
                      case atStart => exact ⟨Keep.refl _, 0, by omega, rfl⟩
                      case round =>
                        obtain ⟨kr, j, hj, rfl⟩ := hrel
                        obtain ⟨wo, hwo⟩ : ∃ wo, wo = wr := ⟨_, rfl⟩
                        subst hwo
                        by_cases hjl : j < m4.length
                        · have hjc : (j : Int) < (m4.length : Int) := by omega
                          obtain ⟨bw, ow, gw, rfl, cw, rw'⟩ := rK.out j hjl
                          obtain ⟨ga2, ca2, f1, f2⟩ := AF.out j (by omega)
                          have e1 := hkr3.out j (by omega)
                          have hlj := hlen.out j (by omega)
                          obtain ⟨hae, ⟨cur, hcur⟩, hgb, hgc, hgn⟩ := hga.out (by omega)
                          subst hae
                          rw [e1] at f1 f2 hlj
                          have d0 := kr.cell cw
                          have d1 := kH.cell f1
                          have d2 : Hid _ := fun k hk => kH.cell (f2 k hk)
                          obtain ⟨lj, hG⟩ : ∃ lj, (m4.getD j []).length = lj := ⟨_, rfl⟩
                          rw [hG] at d0 d1 d2 hlj
                          replace hgc : Hid _ := hgc
                          replace hgn : Hid _ := hgn
                          replace hG : Hid _ := hG
                          replace e1 : Hid _ := e1
                          replace rw' : Hid _ := rw'
                          replace f1 : Hid _ := f1
                          replace f2 : Hid _ := f2
                          replace cw : Hid _ := cw
                          replace d1 : Hid _ := d1
                          go_wp2_with fail
                          go_loopw [147] (fun i wr => Keep wH wr ∧ ∃ k : Nat, k ≤ lj ∧ i = .int .i64 k) (fun i _ => lj - (intOf i).toNat)
                          case atStart => exact ⟨kr, 0, by omega, rfl⟩
                          case round =>
                            obtain ⟨ks, k, hk, rfl⟩ := hrel
                            obtain ⟨wp, hwp⟩ : ∃ wp, wp = wr := ⟨_, rfl⟩
                            subst hwp
                            by_cases hkl : k < lj
                            · have hkc : (k : Int) < (lj : Int) := by omega
                              have hkc3 : (k : Int) < ((lj + 3 : Nat) : Int) := by omega
                              have ck := ks.cell (d2.out k hkl)
                              have dk := ks.cell d1.out
                              go_wp2_with fail
                              exact ⟨⟨ks, k + 1, by omega, by go_num⟩, by simp [intOf]; omega⟩
                            · have hkc : ¬ (k : Int) < (lj : Int) := by omega
                              obtain rfl : k = lj := by omega
                              go_wp2_with fail
                              go_roundw
                              case rel =>
                                exact ⟨_, _, _, _, ⟨j + 1, by omega, rfl⟩, rfl, rfl, rfl, by go_num⟩
                              case measure => simp [intOf]; omega
                        · have hjc : ¬ (j : Int) < (m4.length : Int) := by omega
                          obtain rfl : j = m4.length := by omega
                          have hd6 : (1 : Int) < (l6.length : Int) + 2 := by omega
                          have hd5 : (1 : Int) < (l5.length : Int) + 2 := by omega
                          have h16 : Calls Tryd.prog 16 #[.slice a4 m4.length c4, .slice av m4.length cv] wo fun e w' => e = .returned (.bool true) ∧ Keep wo w' := Sets_eq a4 av c4 cv m4 wo hm3 hm3'.out (RdK.keep rb2.out kr) (RdK.keep rK.out kr)
                          go_wp2_with (first
                            | (go_at_call 16; refine h16.mono ?_; rintro e wI ⟨rfl, kI⟩; have kJ := (kW.trans kr).trans kI; have x0I := kJ.cell x0; have x1I := kJ.cell x1)
                            | (go_at_call 3; refine (h3.out wI kJ).mono ?_; rintro e wK ⟨rfl, kK⟩; have kL := kJ.trans kK; have x0K := kL.cell x0; have x1K := kL.cell x1)
                            | (go_at_call 4; refine (h4.out wK kL).mono ?_; rintro e wM ⟨rfl, kM⟩; have kN := (k1.trans kL).trans kM))
                          go_ret
                          exact ⟨rfl, kN⟩
end Go.Proofs.YtcdcheecaphmgaaDoor
