import Derived.Test.YtcdcheecaphmgaaDoorM5
set_option linter.unusedVariables false
set_option linter.unusedSimpArgs false
namespace Go.Proofs.YtcdcheecaphmgaaDoor
open Go.RowKit Go.Shelf
theorem step_appM {B : Nat} {W : World} {ops : Array Oper} {o : Oper} {a : Act} {K : Act → World → Prop} {Q : Exit → Act → World → Prop} {E : Prop} (hgd : o.guard = none) (s x : Operand)
    (ho : o.op = .call { callee := .builtin .append, args := #[s, x], argTypes := #[26, 26] }) (l : List (Nat × Nat × Nat)) (y : Nat × Nat × Nat) (v : Value) (hown : OwnM B W v l) (hB : B ≤ W.heap.size) (hlen : l.length + 1 ≤ 5864062014805) (ad : Addr) (c : Nat) (hnews : ∀ j u, (UM [y])[j]? = some u → W.cell? (ad.add j) = some u)
    (hs : a.eval s = v) (hx : a.eval x = .slice (some ad) 1 c)
    (hK : ∀ v' w', OwnM B w' v' (l ++ [y]) → W.grownBy w' v.ownBlock → K (a.put o.dst v') w') :
    if Region.wanted o (yielded ops a.tmps) = true then Oper.wp Tryd.prog o a W K Q else E := by
  have hw : Region.wanted o (yielded ops a.tmps) = true := by simp [Region.wanted, hgd]
  rw [if_pos hw]
  obtain ⟨v', w', hr, h2, h3⟩ := appM_run B W o.type v l y hown hB ad c hnews hlen
  unfold Oper.wp execOp
  simp only [ho, resolve, invoke, builtin, Sem.run_bind, Sem.run_pure, Result.andThen_ok, List.map_toArray, List.map_cons, List.map_nil, hs, hx, hr]
  exact hK v' w' h2 h3
/-- Marks that are right. -/
def MkOk (t : Sh) (b : BT) (l : List (Nat × Nat × Nat)) : Prop := ∀ x ∈ l, (x.1, x.2.1) ∈ b.fr 0 ∧ t.K x.1 = true ∧ ∃ c, Bt t c (t.A x.1) ∧ x.2.2 = x.2.1 + c.nl
/-- What the reference's Marks holds between two rounds. -/
structure RM (L : List Nd) (w W0 : World) (g : Nat) (b : BT) (p : List Nat) (l : List (Nat × Nat × Nat)) (F : List Nat) (v : Value) (wr : World) : Prop where
  kp : Keep w wr
  sz : W0.heap.size ≤ wr.heap.size
  low : ∀ b, b < W0.heap.size → b ≠ g → wr.heap[b]? = W0.heap[b]?
  row : wr.heap[g]? = some (.cells (UI F).toArray 3 (0, 0))
  own : OwnM W0.heap.size wr v l
  fl : F.length = L.length
  nm : l.map (·.1) = p.filter (fun j => (shp L).K j)
  mks : MkOk (shp L) b l
  fr : ∀ j c, (j, c) ∈ b.fr 0 → (j = 0 ∨ ∃ q ∈ p, (shp L).K q = true ∧ ((shp L).A q = j ∨ (shp L).B q = j)) → F.getD j 0 = c
theorem RM.skip {L : List Nd} {w W0 : World} {g : Nat} {b : BT} {p : List Nat} {l : List (Nat × Nat × Nat)} {F : List Nat} {v : Value} {wr w' : World} (h : RM L w W0 g b p l F v wr) (hg : g < W0.heap.size) (k : Keep wr w') {i : Nat} (hK : (shp L).K i = false) : RM L w W0 g b (p ++ [i]) l F v w' := by
  have hs := h.sz
  refine ⟨h.kp.trans k, Nat.le_trans h.sz k.le, fun b hb hne => (k.block b (by omega)).trans (h.low b hb hne), (k.block _ (by omega)).trans h.row, own_keep h.own k, h.fl, by rw [List.filter_append, h.nm]; simp [hK], h.mks, ?_⟩
  intro j c hj hp
  refine h.fr j c hj ?_
  rcases hp with hp | ⟨q, hq, h1, h2⟩
  · exact .inl hp
  · rcases List.mem_append.1 hq with hq | hq
    · exact .inr ⟨q, hq, h1, h2⟩
    · simp only [List.mem_singleton] at hq
      subst hq
      rw [hK] at h1; cases h1
theorem RM.next {L : List Nd} {w W0 : World} {g : Nat} {b : BT} {p : List Nat} {l : List (Nat × Nat × Nat)} {F : List Nat} {v v7 : Value} {wr W w7 : World} (h : RM L w W0 g b p l F v wr) (hT : Tr (shp L) L.length) (hb : Bt (shp L) b 0) (hg : g < W0.heap.size) (hw : w.heap.size ≤ g) (k : Keep wr W) {i a : Nat} {c : BT} (hi : i < L.length) (hK : (shp L).K i = true) (ha : (i, a) ∈ b.fr 0) (hc : Bt (shp L) c ((shp L).A i))
    (hO : OwnM W0.heap.size w7 v7 (l ++ [(i, a, a + c.nl)])) (g7 : W.grownBy w7 v.ownBlock) :
    w7.heap[g]? = some (.cells (UI F).toArray 3 (0, 0)) ∧
    (w7.setCell ⟨g, (shp L).A i, none⟩ (.int .i64 (a : Nat))).heap[g]? = some (.cells (UI (F.set ((shp L).A i) a)).toArray 3 (0, 0)) ∧
    RM L w W0 g b (p ++ [i]) (l ++ [(i, a, a + c.nl)]) ((F.set ((shp L).A i) a).set ((shp L).B i) (a + c.nl)) v7 ((w7.setCell ⟨g, (shp L).A i, none⟩ (.int .i64 (a : Nat))).setCell ⟨g, (shp L).B i, none⟩ (.int .i64 ((a + c.nl : Nat) : Int))) := by
  have hs := h.sz
  have hk := k.le
  have h7 := g7.size
  obtain ⟨hA, hB⟩ := hT.wi.2 i hi hK
  obtain ⟨zA, zB⟩ := hT.z i hi hK
  have hab := hT.ab hi hK
  have hnd : ((b.fr 0).map (·.1)).Nodup := by rw [b.fr_pre, ← ord_bt hT hb]; exact ord_nodup hT.wi
  obtain ⟨c2, hc2, nA, nB⟩ := hb.fr_next 0 (i, a) ha hK
  have e := hc.one hc2
  subst e
  have hbl : ∀ b, b < W0.heap.size → w7.heap[b]? = wr.heap[b]? := fun b hb => (g7.block b (by omega) (fun e => by have := (own_block h.own e.symm).1; omega)).trans (k.block b (by omega))
  have hrow : w7.heap[g]? = some (.cells (UI F).toArray 3 (0, 0)) := (hbl g hg).trans h.row
  have hr2 : (w7.setCell ⟨g, (shp L).A i, none⟩ (.int .i64 (a : Nat))).heap[g]? = some (.cells (UI (F.set ((shp L).A i) a)).toArray 3 (0, 0)) := by
    have := heap_setCell_same w7 g ((shp L).A i) _ 3 (.int .i64 (a : Nat)) hrow
    rw [this]
    simp [UI, List.map_set]
  refine ⟨hrow, hr2, ?_⟩
  refine ⟨?_, by simp only [World.size_setCell]; omega, ?_, ?_, own_set (own_set hO hg) hg, by simp [h.fl], ?_, ?_, ?_⟩
  · exact Below.setCell (Below.setCell (Below.grown (h.kp.trans k) g7 (by have := h.kp.le; omega) (fun b hb => by have := (own_block h.own hb).1; omega)) (p := ⟨g, (shp L).A i, none⟩) hw _) (p := ⟨g, (shp L).B i, none⟩) hw _
  · intro b hb2 hne
    rw [neq_setM _ _ _ _ _ hne, neq_setM _ _ _ _ _ hne, hbl b hb2]
    exact h.low b hb2 hne
  · have := heap_setCell_same _ g ((shp L).B i) _ 3 (.int .i64 ((a + c.nl : Nat) : Int)) hr2
    rw [this]
    simp [UI, List.map_set]
  · rw [List.map_append, List.filter_append, h.nm]; simp [hK]
  · intro x hx
    rcases List.mem_append.1 hx with hx | hx
    · exact h.mks x hx
    · simp only [List.mem_singleton] at hx
      subst hx
      exact ⟨ha, hK, c, hc, rfl⟩
  · intro j d hj hp
    rw [getD_set, getD_set]
    simp only [List.length_set]
    by_cases e1 : (shp L).B i = j ∧ j < F.length
    · rw [if_pos e1]
      obtain ⟨rfl, -⟩ := e1
      exact assoc_one hnd nB hj
    · rw [if_neg e1]
      by_cases e2 : (shp L).A i = j ∧ j < F.length
      · rw [if_pos e2]
        obtain ⟨rfl, -⟩ := e2
        exact assoc_one hnd nA hj
      · rw [if_neg e2]
        refine h.fr j d hj ?_
        rcases hp with hp | ⟨q, hq, h1, h2⟩
        · exact .inl hp
        · rcases List.mem_append.1 hq with hq | hq
          · exact .inr ⟨q, hq, h1, h2⟩
          · simp only [List.mem_singleton] at hq
            subst hq
            rcases h2 with rfl | rfl
            · exact absurd ⟨rfl, by rw [h.fl]; exact hA⟩ e2
            · exact absurd ⟨rfl, by rw [h.fl]; exact hB⟩ e1
end Go.Proofs.YtcdcheecaphmgaaDoor
