import Derived.Test.YtaogjiffnebnkaaProg
import Derived.Test.YtaogjiffnebnkaaKYU1
import Derived.Test.YtaogjiffnebnkaaKYMM
import Derived.WalkKit
import Derived.WalkSpells
import Derived.WalkLawsBesides
import Derived.Deep.Draws
import Derived.Deep.QuietTactic
import Derived.BigQuiet
import Derived.Laws.Externs
import Derived.Laws.CopyOwn
import Derived.RangeFuncBox
import Derived.RangeFuncLeaves
import Derived.RangeFuncCalls
import Derived.RangeFuncRecord
import Derived.Below
import Derived.Shelf.Abstract
import Derived.OwnWalkIn
import Derived.TacticsInMore
import Derived.LoopNIn
import Derived.LoopIn
import Derived.Sort.LoopGhostIn
import Derived.Deep.RegionLaw
import Derived.Deep.RegionWith
import Derived.Deep.RegionHeld3
set_option linter.unusedVariables false
set_option linter.unusedSimpArgs false
namespace Go.Proofs.Ytaogjiffnebnkaa.Mk
open Go.RowKit Go.Shelf
theorem neq_setM (W : World) (g j : Nat) (v : Value) : ∀ k, k ≠ g → (W.setCell ⟨g, j, none⟩ v).heap[k]? = W.heap[k]? := fun k hk => Below.heap_setCell _ _ _ _ (by simpa using hk)
theorem own_same {B e s n : Nat} {w w' : World} {v : Value} {l : List Value} (h : w.ownsRow B e s v n l) (k : ∀ b, v.ownBlock = some b → w'.heap[b]? = w.heap[b]?) : w'.ownsRow B e s v n l := by
  refine ⟨h.1, ?_⟩
  rcases h.2 with h2 | ⟨g, cap, cur, hv, hg, hh, r⟩
  · exact .inl h2
  · exact .inr ⟨g, cap, cur, hv, hg, by rw [k g (by rw [hv]; rfl)]; exact hh, r⟩
theorem own_block {B e s n : Nat} {w : World} {v : Value} {l : List Value} (h : w.ownsRow B e s v n l) {b : Nat} (hb : v.ownBlock = some b) : B ≤ b ∧ ∃ cur, w.heap[b]? = some (.cells cur e (0, 0)) := by
  rcases h.2 with ⟨h1, _⟩ | ⟨g, cap, cur, hv, hg, hh, r⟩
  · rw [h1] at hb; cases hb
  · rw [hv] at hb
    have hb : some g = some b := hb
    simp only [Option.some.injEq] at hb
    subst hb
    exact ⟨hg, cur, hh⟩
theorem own_keep {B e s n : Nat} {w w' : World} {v : Value} {l : List Value} (h : w.ownsRow B e s v n l) (k : Keep w w') : w'.ownsRow B e s v n l :=
  own_same h (fun b hb => by obtain ⟨_, cur, hh⟩ := own_block h hb; exact k.block b (Array.getElem?_eq_some_iff.1 hh).1)
theorem own_set {B e s n H j : Nat} {w : World} {v u : Value} {l : List Value} (h : w.ownsRow H e s v n l) (hB : B < H) : (w.setCell ⟨B, j, none⟩ u).ownsRow H e s v n l :=
  own_same h (fun b hb => neq_setM w _ _ _ b (by have := (own_block h hb).1; omega))
theorem own_mono {H H' e s n : Nat} {w : World} {v : Value} {l : List Value} (h : w.ownsRow H e s v n l) (hB : H' ≤ H) : w.ownsRow H' e s v n l := by
  refine ⟨h.1, ?_⟩
  rcases h.2 with h2 | ⟨g, cap, cur, hv, hg, r⟩
  · exact .inl h2
  · exact .inr ⟨g, cap, cur, hv, Nat.le_trans hB hg, r⟩
set_option maxRecDepth 100000 in
set_option maxHeartbeats 2000000 in
/-- Marks as cells, three each. -/
def UM (l : List (Nat × Nat × Nat)) : List Value := l.flatMap fun x => [.int .i64 (x.1 : Nat), .int .i64 (x.2.1 : Nat), .int .i64 (x.2.2 : Nat)]
theorem UM_len (l : List (Nat × Nat × Nat)) : (UM l).length = l.length * 3 := by
  induction l with
  | nil => rfl
  | cons x l ih => simp only [UM, List.flatMap_cons, List.length_append, List.length_cons, List.length_nil] at ih ⊢; omega
theorem UM_append (l m : List (Nat × Nat × Nat)) : UM (l ++ m) = UM l ++ UM m := by simp [UM]
theorem UM_one (l : List (Nat × Nat × Nat)) : ∀ u ∈ UM l, u.oneCell' = true := by
  intro u hu
  simp only [UM, List.mem_flatMap, List.mem_cons, List.not_mem_nil, or_false] at hu
  obtain ⟨x, -, rfl | rfl | rfl⟩ := hu <;> rfl
abbrev m0 : Nat × Nat × Nat := (0, 0, 0)
theorem UM_get (l : List (Nat × Nat × Nat)) (j : Nat) (h : j < l.length) :
    (UM l)[j * 3]? = some (.int .i64 ((l.getD j m0).1 : Nat)) ∧ (UM l)[j * 3 + 1]? = some (.int .i64 ((l.getD j m0).2.1 : Nat)) ∧ (UM l)[j * 3 + 2]? = some (.int .i64 ((l.getD j m0).2.2 : Nat)) := by
  induction l generalizing j with
  | nil => simp at h
  | cons x l ih =>
    rcases j with _ | j
    · simp [UM]
    · have h' : j < l.length := by simpa using h
      have := ih j h'
      have e : UM (x :: l) = [.int .i64 (x.1 : Nat), .int .i64 (x.2.1 : Nat), .int .i64 (x.2.2 : Nat)] ++ UM l := rfl
      rw [e]
      have e2 : ∀ m, ([Value.int .i64 (x.1 : Nat), .int .i64 (x.2.1 : Nat), .int .i64 (x.2.2 : Nat)] ++ UM l)[m + 3]? = (UM l)[m]? := fun m => by
        rw [List.getElem?_append_right (by simp)]; simp
      rw [show (j + 1) * 3 = j * 3 + 3 by omega, show j * 3 + 3 + 1 = j * 3 + 1 + 3 by omega, show j * 3 + 3 + 2 = j * 3 + 2 + 3 by omega, e2, e2, e2]
      simpa using this
def OwnM (B : Nat) (w : World) (v : Value) (l : List (Nat × Nat × Nat)) : Prop := w.ownsRow B 59 3 v l.length (UM l)
theorem OwnM.nil (B : Nat) (w : World) : OwnM B w (.slice none 0 0) [] := ⟨rfl, .inl ⟨rfl, rfl⟩⟩
/-- Marks that can be read. -/
def RdM (w : World) (a : Option Addr) (l : List (Nat × Nat × Nat)) : Prop :=
  ∀ j, j < l.length → ∃ b o, a = some ⟨b, o, none⟩ ∧ w.cell? ⟨b, o + j * 3, none⟩ = some (.int .i64 ((l.getD j m0).1 : Nat)) ∧ w.cell? ⟨b, o + j * 3 + 1, none⟩ = some (.int .i64 ((l.getD j m0).2.1 : Nat)) ∧ w.cell? ⟨b, o + j * 3 + 2, none⟩ = some (.int .i64 ((l.getD j m0).2.2 : Nat))
theorem RdM.keep {w w' : World} {a : Option Addr} {l : List (Nat × Nat × Nat)} (h : RdM w a l) (k : Keep w w') : RdM w' a l := by
  intro j hj
  obtain ⟨b, o, e, h1, h2, h3⟩ := h j hj
  exact ⟨b, o, e, k.cell h1, k.cell h2, k.cell h3⟩
theorem OwnM.shape {B : Nat} {w : World} {v : Value} {l : List (Nat × Nat × Nat)} (h : OwnM B w v l) : ∃ a c, v = .slice a l.length c ∧ l.length ≤ c ∧ RdM w a l := by
  rcases h.2 with ⟨h1, h2⟩ | ⟨g, cap, cur, hv, hg, hh, h1, h2, h3, h4⟩
  · exact ⟨none, 0, by rw [h1, h2], by omega, fun j hj => by omega⟩
  · refine ⟨some ⟨g, 0, none⟩, cap, hv, h1, ?_⟩
    intro j hj
    obtain ⟨p0, p1, p2⟩ := UM_get l j hj
    have e1 : ∀ m, m < l.length * 3 → cur[m]? = (UM l)[m]? := fun m hm => by
      have : cur.toList[m]? = (UM l)[m]? := by rw [← h4, List.getElem?_take, if_pos hm]
      rw [← this]; simp
    refine ⟨g, 0, rfl, ?_, ?_, ?_⟩
    · rw [Nat.zero_add, cell_of_row w g _ cur 59 (0, 0) hh, e1 _ (by omega), p0]
    · rw [Nat.zero_add, cell_of_row w g _ cur 59 (0, 0) hh, e1 _ (by omega), p1]
    · rw [Nat.zero_add, cell_of_row w g _ cur 59 (0, 0) hh, e1 _ (by omega), p2]
theorem i52 : (Try.prog.info? 59).map (fun i => (i.zero, i.size, i.bytes)) = some (some (.agg #[.int .i64 0, .int .i64 0, .int .i64 0]), 3, 24) := by kernel_rfl
theorem appM_run (B : Nat) (w : World) (ty : Nat) (v : Value) (l : List (Nat × Nat × Nat)) (y : Nat × Nat × Nat) (hown : OwnM B w v l) (hB : B ≤ w.heap.size) (ad : Addr) (c : Nat) (hnews : ∀ j u, (UM [y])[j]? = some u → w.cell? (ad.add j) = some u) (hlen : l.length + 1 ≤ 5864062014805) :
    ∃ v' w', (Builtin.append_ #[49, 49] ty #[v, .slice (some ad) 1 c]).run Try.prog w = .ok v' w' ∧ OwnM B w' v' (l ++ [y]) ∧ w.grownBy w' v.ownBlock := by
  obtain ⟨i0, hi, hz0, hz1, hz2⟩ := info_parts i52
  obtain ⟨v', w', hr, h2, h3, -⟩ := run_append_own (P := Try.prog) w B 49 ty 59 i0 _ 3 24 Try.underlying49 hi hz0 hz1 hz2 rfl (by decide) v _ _ hown ad 1 c (UM [y]) (by rw [UM_len]; rfl) hnews (UM_one _) (by simp only [maxLen]; omega) (by omega) hB
  refine ⟨v', w', hr, ?_, h3⟩
  unfold OwnM; rw [List.length_append, UM_append]; exact h2
theorem newsM (W : World) (i a c : Nat) : ∀ j u, (UM [(i, a, c)])[j]? = some u → (W.alloc (Obj.cells #[.int .i64 (i : Nat), .int .i64 (a : Nat), .int .i64 (c : Nat)] 59)).cell? ((⟨W.heap.size, 0, none⟩ : Addr).add j) = some u := by
  intro j u hj
  rw [Go.WideShapes.add_plain, Nat.zero_add, cell_of_row _ _ _ _ 59 (0, 0) (heap_alloc_new W _)]
  simpa [UM] using hj
/-- append(l, mark). -/
theorem wpList_appM (B : Nat) (w : World) {ops : Array Oper} {rest : List Oper} {o : Oper} {a : Act} {Q : Exit → Act → World → Prop} (hgd : o.guard = none) (s x : Operand)
    (hop : o.op = .call { callee := .builtin .append, args := #[s, x], argTypes := #[49, 49] }) (l : List (Nat × Nat × Nat)) (y : Nat × Nat × Nat) (v : Value) (hs : a.eval s = v) (hown : OwnM B w v l) (hB : B ≤ w.heap.size) (ad : Addr) (c : Nat) (hx : a.eval x = .slice (some ad) 1 c)
    (hnews : ∀ j u, (UM [y])[j]? = some u → w.cell? (ad.add j) = some u) (hlen : l.length + 1 ≤ 5864062014805)
    (hK : ∀ v' w', OwnM B w' v' (l ++ [y]) → w.grownBy w' v.ownBlock → wpList Try.prog ops Q rest (a.put o.dst v') w') :
    wpList Try.prog ops Q (o :: rest) a w := by
  refine wpList_plain hgd fun K hK' => ?_
  obtain ⟨v', w', hrun, r1, r2⟩ := appM_run B w o.type v l y hown hB ad c hnews hlen
  unfold Oper.wp
  simp [execOp, hop, resolve, invoke, builtin, hs, hx, hrun, Result.andThen]
  exact hK' _ _ (hK v' w' r1 r2)
/-- The boxes of marksOf: the tree, the marks, the function. -/
structure MS (w0 : World) (out : Int) (a : Option Addr) (len cap : Nat) (l : List (Nat × Nat × Nat)) (v : Value) (wr : World) : Prop where
  kp : Keep w0 wr
  b1 : wr.heap[w0.heap.size]? = some (.cells #[.int .i64 out, .slice a len cap] 54 (0, 0))
  b2 : wr.heap[w0.heap.size + 1]? = some (.cells #[v] 49 (0, 0))
  b3 : wr.heap[w0.heap.size + 2]? = some (.cells #[.func (.func 82) #[] #[.pointer (some ⟨w0.heap.size, 0, none⟩), .pointer (some ⟨w0.heap.size + 1, 0, none⟩), .pointer (some ⟨w0.heap.size + 2, 0, none⟩)]] 129 (0, 0))
  own : OwnM (w0.heap.size + 3) wr v l
  sz : w0.heap.size + 3 ≤ wr.heap.size
theorem MS.keep {w0 : World} {out : Int} {a : Option Addr} {len cap : Nat} {l : List (Nat × Nat × Nat)} {v : Value} {wr w' : World} (h : MS w0 out a len cap l v wr) (k : Keep wr w') : MS w0 out a len cap l v w' := by
  have hs := h.sz
  exact ⟨h.kp.trans k, (k.block _ (by omega)).trans h.b1, (k.block _ (by omega)).trans h.b2, (k.block _ (by omega)).trans h.b3, own_keep h.own k, Nat.le_trans h.sz k.le⟩
theorem MS.app {w0 : World} {out : Int} {a : Option Addr} {len cap : Nat} {l : List (Nat × Nat × Nat)} {v : Value} {wr : World} (h : MS w0 out a len cap l v wr) {y : Nat × Nat × Nat} {v' : Value} {w7 : World} {ob : Obj} (hO : OwnM (w0.heap.size + 3) w7 v' (l ++ [y])) (g7 : (wr.alloc ob).grownBy w7 v.ownBlock) :
    MS w0 out a len cap (l ++ [y]) v' (w7.setCell ⟨w0.heap.size + 1, 0, none⟩ v') := by
  have hs := h.sz
  have h2 := g7.size
  rw [World.size_alloc] at h2
  have hb : ∀ b, b < w0.heap.size + 3 → w7.heap[b]? = wr.heap[b]? := fun b hb => (g7.block b (by rw [World.size_alloc]; omega) (fun e => by have := (own_block h.own e.symm).1; omega)).trans (((Keep.refl wr).alloc ob).block b (by omega))
  refine ⟨?_, ?_, ?_, ?_, own_set hO (by omega), by rw [World.size_setCell]; omega⟩
  · exact Below.setCell (Below.grown (h.kp.alloc ob) g7 (by rw [World.size_alloc]; have := h.kp.le; omega) (fun b hb => by have := (own_block h.own hb).1; omega)) (p := ⟨w0.heap.size + 1, 0, none⟩) (by show _ ≤ w0.heap.size + 1; omega) v'
  · rw [neq_setM _ _ _ _ _ (by omega), hb _ (by omega)]; exact h.b1
  · have := heap_setCell_same w7 (w0.heap.size + 1) 0 _ 49 v' ((hb _ (by omega)).trans h.b2)
    simpa using this
  · rw [neq_setM _ _ _ _ _ (by omega), hb _ (by omega)]; exact h.b3
theorem MS.pre {w0 : World} {out : Int} {a : Option Addr} {len cap : Nat} {l : List (Nat × Nat × Nat)} {v : Value} {wr : World} (h : MS w0 out a len cap l v wr) {w7 : World} {ob : Obj} (g7 : (wr.alloc ob).grownBy w7 v.ownBlock) : w7.heap[w0.heap.size + 1]? = some (.cells #[v] 49 (0, 0)) := by
  have hs := h.sz
  exact (g7.block _ (by rw [World.size_alloc]; omega) (fun e => by have := (own_block h.own e.symm).1; omega)).trans ((((Keep.refl wr).alloc ob).block _ (by omega)).trans h.b2)
/-- A mark's end is put in. -/
theorem MS.setTo {w0 : World} {out : Int} {a : Option Addr} {len cap : Nat} {l m : List (Nat × Nat × Nat)} {i fa c : Nat} {v : Value} {wr : World} (h : MS w0 out a len cap (l ++ (i, fa, c) :: m) v wr) (to : Nat) :
    ∃ g cp, v = .slice (some ⟨g, 0, none⟩) (l ++ (i, fa, c) :: m).length cp ∧ wr.cell? ⟨g, l.length * 3 + 2, none⟩ = some (.int .i64 (c : Nat)) ∧ wr.frozen? ⟨g, l.length * 3 + 2, none⟩ = false ∧ MS w0 out a len cap (l ++ (i, fa, to) :: m) v (wr.setCell ⟨g, l.length * 3 + 2, none⟩ (.int .i64 (to : Nat))) := by
  rcases h.own.2 with ⟨h1, h2⟩ | ⟨g, cp, cur, hv, hg, hh, h1, h2, h3, h4⟩
  · simp at h2
  · have hs := h.sz
    have e1 : cur[l.length * 3 + 2]? = some (.int .i64 (c : Nat)) := by
      have : cur.toList[l.length * 3 + 2]? = (UM (l ++ (i, fa, c) :: m))[l.length * 3 + 2]? := by rw [← h4, List.getElem?_take, if_pos (by simp; omega)]
      have h5 := (UM_get (l ++ (i, fa, c) :: m) l.length (by simp)).2.2
      rw [h5] at this
      simpa using this
    refine ⟨g, cp, hv, by rw [cell_of_row wr g _ cur 59 (0, 0) hh, e1], frozen_of_row wr g _ cur 59 hh, ?_⟩
    have hb : ∀ b, b ≠ g → (wr.setCell ⟨g, l.length * 3 + 2, none⟩ (.int .i64 (to : Nat))).heap[b]? = wr.heap[b]? := fun b hb => neq_setM wr _ _ _ b hb
    refine ⟨?_, ?_, ?_, ?_, ?_, by rw [World.size_setCell]; omega⟩
    · exact Below.setCell h.kp (p := ⟨g, l.length * 3 + 2, none⟩) (by show _ ≤ g; omega) _
    · rw [hb _ (by omega)]; exact h.b1
    · rw [hb _ (by omega)]; exact h.b2
    · rw [hb _ (by omega)]; exact h.b3
    · refine ⟨by rw [UM_len], .inr ⟨g, cp, cur.set! (l.length * 3 + 2) (.int .i64 (to : Nat)), ?_, hg, ?_, ?_, h2, by simpa using h3, ?_⟩⟩
      · rw [hv]; simp
      · have := heap_setCell_same wr g (l.length * 3 + 2) _ 59 (.int .i64 (to : Nat)) hh
        simpa using this
      · simpa using h1
      · have e2 : (cur.set! (l.length * 3 + 2) (.int .i64 (to : Nat))).toList.take ((l ++ (i, fa, to) :: m).length * 3) = (cur.toList.take ((l ++ (i, fa, c) :: m).length * 3)).set (l.length * 3 + 2) (.int .i64 (to : Nat)) := by
          simp [Array.set!_eq_setIfInBounds, List.take_set]
        rw [e2, h4]
        rw [UM_append, UM_append]
        have e3 : UM ((i, fa, c) :: m) = [.int .i64 (i : Nat), .int .i64 (fa : Nat), .int .i64 (c : Nat)] ++ UM m := rfl
        have e4 : UM ((i, fa, to) :: m) = [.int .i64 (i : Nat), .int .i64 (fa : Nat), .int .i64 (to : Nat)] ++ UM m := rfl
        rw [e3, e4, List.set_append_right _ _ (by rw [UM_len]; omega), UM_len]
        rw [show l.length * 3 + 2 - l.length * 3 = 2 by omega]
        rfl
end Go.Proofs.Ytaogjiffnebnkaa.Mk
