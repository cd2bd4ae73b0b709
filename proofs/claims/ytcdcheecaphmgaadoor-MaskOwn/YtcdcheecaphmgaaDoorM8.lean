import Derived.Test.YtcdcheecaphmgaaDoorM7
import Derived.Test.YtcdcheecaphmgaaDoorBF1
set_option linter.unusedVariables false
set_option linter.unusedSimpArgs false
namespace Go.Proofs.YtcdcheecaphmgaaDoor
open Go.RowKit Go.Shelf
/-- Slices of words, each at the head of a block. -/
def UV (K : List (Nat × Nat)) : List Value := K.map fun x => .slice (some ⟨x.1, 0, none⟩) x.2 x.2
def OwnV (B : Nat) (w : World) (v : Value) (K : List (Nat × Nat)) : Prop := w.ownsRow B 40 1 v K.length (UV K)
abbrev v0 : Nat × Nat := (0, 0)
theorem UV_get (K : List (Nat × Nat)) (j : Nat) (h : j < K.length) : (UV K)[j]? = some (.slice (some ⟨(K.getD j v0).1, 0, none⟩) (K.getD j v0).2 (K.getD j v0).2) := by simp [UV, List.getD, h]
theorem OwnV.nil (B : Nat) (w : World) : OwnV B w (.slice none 0 0) [] := ⟨rfl, .inl ⟨rfl, rfl⟩⟩
theorem OwnV.shape {B : Nat} {w : World} {v : Value} {K : List (Nat × Nat)} (h : OwnV B w v K) : ∃ a c, v = .slice a K.length c ∧ K.length ≤ c ∧ ∀ j, j < K.length → ∃ b o, a = some ⟨b, o, none⟩ ∧ w.cell? ⟨b, o + j, none⟩ = some (.slice (some ⟨(K.getD j v0).1, 0, none⟩) (K.getD j v0).2 (K.getD j v0).2) := by
  rcases h.2 with ⟨h1, h2⟩ | ⟨g, cap, cur, hv, hg, hh, h1, h2, h3, h4⟩
  · exact ⟨none, 0, by rw [h1, h2], by omega, fun j hj => by omega⟩
  · refine ⟨some ⟨g, 0, none⟩, cap, hv, h1, ?_⟩
    intro j hj
    refine ⟨g, 0, rfl, ?_⟩
    have e1 : cur.toList[j]? = (UV K)[j]? := by rw [← h4, List.getElem?_take, if_pos (by omega)]
    rw [Nat.zero_add, cell_of_row w g _ cur 40 (0, 0) hh, ← UV_get K j hj, ← e1]; simp
theorem i40m : (Tryd.prog.info? 40).map (fun i => (i.zero, i.size, i.bytes)) = some (some (.slice none 0 0), 1, 24) := by kernel_rfl
theorem appV_run (B : Nat) (w : World) (ty : Nat) (v : Value) (l : List (Nat × Nat)) (y : Nat × Nat) (hown : OwnV B w v l) (hB : B ≤ w.heap.size) (ad : Addr) (c : Nat) (hnews : w.cell? ad = some (.slice (some ⟨y.1, 0, none⟩) y.2 y.2)) (hlen : l.length + 1 ≤ 5864062014805) :
    ∃ v' w', (Builtin.append_ #[30, 30] ty #[v, .slice (some ad) 1 c]).run Tryd.prog w = .ok v' w' ∧ OwnV B w' v' (l ++ [y]) ∧ w.grownBy w' v.ownBlock := by
  obtain ⟨i0, hi, hz0, hz1, hz2⟩ := info_parts i40m
  obtain ⟨v', w', hr, h2, h3, -⟩ := run_append_own (P := Tryd.prog) w B 30 ty 40 i0 _ 1 24 Tryd.underlying30 hi hz0 hz1 hz2 rfl (by decide) v _ _ hown ad 1 c (UV [y]) (by simp [UV]) (by
    intro j u hj
    match j, hj with
    | 0, hj =>
      simp [UV] at hj
      subst hj
      simpa [Addr.add] using hnews
    | j + 1, hj => simp [UV] at hj) (by intro u hu; obtain ⟨_, _, rfl⟩ := List.mem_map.1 hu; rfl) (by simp only [maxLen]; omega) (by omega) hB
  refine ⟨v', w', hr, ?_, h3⟩
  unfold OwnV; rw [List.length_append, UV, List.map_append]; exact h2
theorem wpList_appV (B : Nat) (w : World) {ops : Array Oper} {rest : List Oper} {o : Oper} {a : Act} {Q : Exit → Act → World → Prop} (hgd : o.guard = none) (s x : Operand)
    (hop : o.op = .call { callee := .builtin .append, args := #[s, x], argTypes := #[30, 30] }) (l : List (Nat × Nat)) (y : Nat × Nat) (v : Value) (hs : a.eval s = v) (hown : OwnV B w v l) (hB : B ≤ w.heap.size) (ad : Addr) (c : Nat) (hx : a.eval x = .slice (some ad) 1 c)
    (hnews : w.cell? ad = some (.slice (some ⟨y.1, 0, none⟩) y.2 y.2)) (hlen : l.length + 1 ≤ 5864062014805)
    (hK : ∀ v' w', OwnV B w' v' (l ++ [y]) → w.grownBy w' v.ownBlock → wpList Tryd.prog ops Q rest (a.put o.dst v') w') :
    wpList Tryd.prog ops Q (o :: rest) a w := by
  refine wpList_plain hgd fun K hK' => ?_
  obtain ⟨v', w', hrun, r1, r2⟩ := appV_run B w o.type v l y hown hB ad c hnews hlen
  unfold Oper.wp
  simp [execOp, hop, resolve, invoke, builtin, hs, hx, hrun, Result.andThen]
  exact hK' _ _ (hK v' w' r1 r2)
theorem newsV (W : World) (g n : Nat) : (W.alloc (Obj.cells #[.slice (some ⟨g, 0, none⟩) n n] 40)).cell? ⟨W.heap.size, 0, none⟩ = some (.slice (some ⟨g, 0, none⟩) n n) := by
  rw [cell_of_row _ _ _ _ 40 (0, 0) (heap_alloc_new W _)]; rfl
/-- A mark's mask. -/
def mkF (x : Nat × Nat × Nat) : Nat → Bool := fun i => !decide (x.2.1 ≤ i ∧ i < x.2.2)
/-- Masks that can be read. -/
def RdK (w : World) (a : Option Addr) (ms : List (List Nat)) : Prop :=
  ∀ j, j < ms.length → ∃ b o g, a = some ⟨b, o, none⟩ ∧ w.cell? ⟨b, o + j, none⟩ = some (.slice (some ⟨g, 0, none⟩) (ms.getD j []).length (ms.getD j []).length) ∧ Bi.Rd w (some ⟨g, 0, none⟩) (ms.getD j [])
theorem RdK.keep {w w' : World} {a : Option Addr} {ms : List (List Nat)} (h : RdK w a ms) (k : Keep w w') : RdK w' a ms := by
  intro j hj
  obtain ⟨b, o, g, e, h1, h2⟩ := h j hj
  refine ⟨b, o, g, e, k.cell h1, fun i hi => ?_⟩
  obtain ⟨b2, o2, e2, h3⟩ := h2 i hi
  exact ⟨b2, o2, e2, k.cell h3⟩
/-- What the making of masks holds between two rounds. -/
structure VI (n : Nat) (l : List (Nat × Nat × Nat)) (W0 : World) (j : Nat) (K : List (Nat × Nat)) (ms : List (List Nat)) (v : Value) (wr : World) : Prop where
  k0 : Keep W0 wr
  own : OwnV W0.heap.size wr v K
  kl : K.length = j
  ml : ms.length = j
  ok : ∀ i, i < j → (K.getD i v0).2 = (ms.getD i []).length ∧ Bi.Row wr (K.getD i v0).1 (ms.getD i []) ∧ Bi.mkl n (mkF (l.getD i m0)) (ms.getD i [])
theorem getD_snoc {α : Type} (l : List α) (x d : α) (j : Nat) : (l ++ [x]).getD j d = if j = l.length then x else l.getD j d := by
  by_cases h : j < l.length
  · rw [if_neg (by omega)]; simp [List.getD, List.getElem?_append, h]
  · by_cases h2 : j = l.length
    · subst h2; simp [List.getD]
    · rw [if_neg h2]; simp [List.getD, List.getElem?_append, h, show ¬ j - l.length = 0 by omega]
theorem VI.next {n : Nat} {l : List (Nat × Nat × Nat)} {W0 : World} {j : Nat} {K : List (Nat × Nat)} {ms : List (List Nat)} {v v7 : Value} {wr W w7 : World} (h : VI n l W0 j K ms v wr) (k : Keep wr W) {g : Nat} {m : List Nat} (hr : Bi.Row W g m) (hm : Bi.mkl n (mkF (l.getD j m0)) m) (hO : OwnV W0.heap.size w7 v7 (K ++ [(g, m.length)])) (g7 : W.grownBy w7 v.ownBlock) : VI n l W0 (j + 1) (K ++ [(g, m.length)]) (ms ++ [m]) v7 w7 := by
  have hrow : ∀ (b : Nat) (c : Array Value), W.heap[b]? = some (Obj.cells c 53 (0, 0)) → w7.heap[b]? = W.heap[b]? := by
    intro b c hb
    refine g7.block b (Array.getElem?_eq_some_iff.1 hb).1 ?_
    intro e
    obtain ⟨-, cur, hc⟩ := own_block (own_keep h.own k) e.symm
    rw [hb] at hc
    simp at hc
  have hle := h.k0.le
  have hkl := k.le
  refine ⟨Below.grown (h.k0.trans k) g7 (by omega) (fun b hb => (own_block h.own hb).1), hO, by rw [List.length_append, h.kl]; rfl, by rw [List.length_append, h.ml]; rfl, ?_⟩
  intro i hi
  rw [getD_snoc, getD_snoc, h.kl, h.ml]
  by_cases e : i = j
  · subst e
    rw [if_pos rfl, if_pos rfl]
    exact ⟨rfl, by unfold Bi.Row; rw [hrow g _ hr]; exact hr, hm⟩
  · rw [if_neg e, if_neg e]
    obtain ⟨h1, h2, h3⟩ := h.ok i (by omega)
    have h4 : Bi.Row W (K.getD i v0).1 (ms.getD i []) := h2.keep k
    exact ⟨h1, by unfold Bi.Row; rw [hrow _ _ h4]; exact h4, h3⟩
theorem VI.rd {n : Nat} {l : List (Nat × Nat × Nat)} {W0 : World} {j : Nat} {K : List (Nat × Nat)} {ms : List (List Nat)} {v : Value} {wr : World} (h : VI n l W0 j K ms v wr) : ∃ a c, v = .slice a ms.length c ∧ RdK wr a ms := by
  obtain ⟨a, c, hv, -, hr⟩ := h.own.shape
  refine ⟨a, c, by rw [hv, h.kl, h.ml], ?_⟩
  intro i hi
  rw [h.ml] at hi
  obtain ⟨b, o, e, hc⟩ := hr i (by rw [h.kl]; exact hi)
  obtain ⟨h1, h2, -⟩ := h.ok i hi
  rw [h1] at hc
  refine ⟨b, o, _, e, hc, fun k hk => ?_⟩
  exact ⟨_, 0, rfl, by rw [Nat.zero_add]; exact h2.cell k hk⟩
end Go.Proofs.YtcdcheecaphmgaaDoor
