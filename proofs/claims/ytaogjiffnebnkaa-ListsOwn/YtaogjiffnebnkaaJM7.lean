import Derived.Test.YtaogjiffnebnkaaP4
import Derived.Test.YtaogjiffnebnkaaProg
import Derived.Test.YtaogjiffnebnkaaJYMM
import Derived.Test.YtaogjiffnebnkaaJYT3
import Derived.Test.YtaogjiffnebnkaaJYR3
import Derived.Test.YtaogjiffnebnkaaKYT5
import Derived.Test.YtaogjiffnebnkaaKYT6
import Derived.Test.YtaogjiffnebnkaaKYU1
import Derived.Test.YtaogjiffnebnkaaKYMM
import Derived.Test.YtaogjiffnebnkaaKM1
import Derived.Test.YtaogjiffnebnkaaKM2
import Derived.Test.YtaogjiffnebnkaaKM3
import Derived.WalkKit
import Derived.WalkSpells
import Derived.WalkLawsBesides
import Derived.Deep.Draws
import Derived.Deep.QuietTactic
import Derived.BigQuiet
import Derived.Laws.Externs
import Derived.Laws.CopyOwn
import Derived.RangeFuncBox
import Derived.RangeFuncLeaves
import Derived.RangeFuncCalls
import Derived.RangeFuncRecord
import Derived.Below
import Derived.Shelf.Abstract
import Derived.OwnWalkIn
import Derived.TacticsInMore
import Derived.LoopNIn
import Derived.LoopIn
import Derived.Sort.LoopGhostIn
import Derived.Deep.RegionLaw
import Derived.Deep.RegionWith
import Derived.Deep.RegionHeld3
import Derived.Stop.RegionWithIn
import Derived.Deep.LoopGhost
import Derived.Deep.CutRange
import Derived.Deep.CutBlock
set_option linter.unusedVariables false
set_option linter.unusedSimpArgs false
namespace Go.Proofs.Ytaogjiffnebnkaa.Mk
open Go.RowKit Go.Shelf
attribute [local go_sem] run_store_float
/-- Whole numbers in a row of one's own. -/
def OwnQ (B : Nat) (w : World) (v : Value) (l : List Nat) : Prop := w.ownsRow B 3 1 v l.length (UI l)
theorem OwnQ.cells {B : Nat} {w : World} {v : Value} {l : List Nat} {x : Nat} (h : OwnQ B w v (l ++ [x])) : ∃ g cap, v = .slice (some ⟨g, 0, none⟩) (l.length + 1) cap ∧ B ≤ g ∧ l.length + 1 ≤ cap ∧ w.cell? ⟨g, l.length, none⟩ = some (.int .i64 (x : Nat)) ∧ OwnQ B w (.slice (some ⟨g, 0, none⟩) l.length cap) l := by
  rcases h.2 with ⟨h1, h2⟩ | ⟨g, cap, cur, hv, hg, hh, h1, h2, h3, h4⟩
  · simp at h2
  · have hl : (l ++ [x]).length = l.length + 1 := by simp
    rw [hl] at hv h1 h4
    refine ⟨g, cap, hv, hg, h1, ?_, by simp [UI], .inr ⟨g, cap, cur, rfl, hg, hh, by omega, h2, h3, ?_⟩⟩
    · have e1 : cur.toList[l.length]? = (UI (l ++ [x]))[l.length]? := by rw [← h4, List.getElem?_take, if_pos (by omega)]
      rw [cell_of_row w g _ cur 3 (0, 0) hh]
      have e2 : (UI (l ++ [x]))[l.length]? = some (.int .i64 (x : Nat)) := by simp [UI]
      rw [e2] at e1
      simpa using e1
    · have := congrArg (List.take l.length) h4
      rw [List.take_take, Nat.min_eq_left (by omega)] at this
      rw [Nat.mul_one, this]
      simp [UI]
end Go.Proofs.Ytaogjiffnebnkaa.Mk
set_option linter.unusedVariables false
set_option linter.unusedSimpArgs false
namespace Go.Proofs.Ytaogjiffnebnkaa.Mk
open Go.RowKit Go.Shelf
attribute [local go_sem] run_store_float
def sumB (f : BT → Nat) (Q : List (Nat × BT)) : Nat := (Q.map fun x => f x.2).sum
/-- What below holds between two rounds. -/
structure WIt (L : List Nd) (w : World) (a : Option Addr) (cap : Nat) (out : Int) (T n : Nat) (v : Value) (wr : World) (Q : List (Nat × BT)) : Prop where
  own : OwnQ (w.heap.size + 1) wr v (Q.map (·.1))
  tb : wr.heap[w.heap.size]? = some (Obj.cells #[Value.int IntKind.i64 out, Value.slice a L.length cap] 54 (0, 0))
  kp : Keep w wr
  bt : ∀ x ∈ Q, Bt (shp L) x.2 x.1 ∧ x.1 < L.length
  sum : n + sumB BT.nl Q = T
  few : Q.length ≤ T
theorem WIt.grow {L : List Nd} {w : World} {a : Option Addr} {cap : Nat} {out : Int} {T n : Nat} {v : Value} {wr : World} {Q Q2 : List (Nat × BT)} (h : WIt L w a cap out T n v wr Q) {W w7 : World} {v2 v7 : Value} {n7 : Nat} (kW : Keep wr W) (hv : ∀ b, v2.ownBlock = some b → w.heap.size + 1 ≤ b) (g7 : W.grownBy w7 v2.ownBlock) (hO : OwnQ (w.heap.size + 1) w7 v7 (Q2.map (·.1))) (hb : ∀ x ∈ Q2, Bt (shp L) x.2 x.1 ∧ x.1 < L.length) (hs : n7 + sumB BT.nl Q2 = T) (hf : Q2.length ≤ T) : WIt L w a cap out T n7 v7 w7 Q2 := by
  have hlt := (Array.getElem?_eq_some_iff.1 h.tb).1
  have h1 := kW.le
  refine ⟨hO, ?_, ?_, hb, hs, hf⟩
  · exact (g7.block _ (by omega) (fun e => by have := hv _ e.symm; omega)).trans ((kW.block _ hlt).trans h.tb)
  · exact Below.grown (h.kp.trans kW) g7 (by have := h.kp.le; omega) (fun b hb => by have := hv b hb; omega)
theorem WIt.leaf {L : List Nd} {w : World} {a : Option Addr} {cap : Nat} {out : Int} {T n : Nat} {v : Value} {wr : World} {Q Q2 : List (Nat × BT)} (h : WIt L w a cap out T n v wr Q) {W : World} {v7 : Value} {n7 : Nat} (kW : Keep wr W) (hO : OwnQ (w.heap.size + 1) wr v7 (Q2.map (·.1))) (hb : ∀ x ∈ Q2, Bt (shp L) x.2 x.1 ∧ x.1 < L.length) (hs : n7 + sumB BT.nl Q2 = T) (hf : Q2.length ≤ T) : WIt L w a cap out T n7 v7 W Q2 :=
  ⟨own_keep hO kW, (kW.block _ (Array.getElem?_eq_some_iff.1 h.tb).1).trans h.tb, h.kp.trans kW, hb, hs, hf⟩
end Go.Proofs.Ytaogjiffnebnkaa.Mk
set_option linter.unusedVariables false
set_option linter.unusedSimpArgs false
namespace Go.Proofs.Ytaogjiffnebnkaa.Mk
open Go.RowKit Go.Shelf
/-- Marks that are right. -/
def MkOk (t : Sh) (b : BT) (l : List (Nat × Nat × Nat)) : Prop := ∀ x ∈ l, (x.1, x.2.1) ∈ b.fr 0 ∧ t.K x.1 = true ∧ ∃ c, Bt t c (t.A x.1) ∧ x.2.2 = x.2.1 + c.nl
/-- What the reference's Marks holds between two rounds. -/
structure RM (L : List Nd) (w W0 : World) (g : Nat) (b : BT) (p : List Nat) (l : List (Nat × Nat × Nat)) (F : List Nat) (v : Value) (wr : World) : Prop where
  kp : Keep w wr
  sz : W0.heap.size ≤ wr.heap.size
  low : ∀ b, b < W0.heap.size → b ≠ g → wr.heap[b]? = W0.heap[b]?
  row : wr.heap[g]? = some (.cells (UI F).toArray 3 (0, 0))
  own : OwnM W0.heap.size wr v l
  fl : F.length = L.length
  nm : l.map (·.1) = p.filter (fun j => (shp L).K j)
  mks : MkOk (shp L) b l
  fr : ∀ j c, (j, c) ∈ b.fr 0 → (j = 0 ∨ ∃ q ∈ p, (shp L).K q = true ∧ ((shp L).A q = j ∨ (shp L).B q = j)) → F.getD j 0 = c
theorem RM.skip {L : List Nd} {w W0 : World} {g : Nat} {b : BT} {p : List Nat} {l : List (Nat × Nat × Nat)} {F : List Nat} {v : Value} {wr w' : World} (h : RM L w W0 g b p l F v wr) (hg : g < W0.heap.size) (k : Keep wr w') {i : Nat} (hK : (shp L).K i = false) : RM L w W0 g b (p ++ [i]) l F v w' := by
  have hs := h.sz
  refine ⟨h.kp.trans k, Nat.le_trans h.sz k.le, fun b hb hne => (k.block b (by omega)).trans (h.low b hb hne), (k.block _ (by omega)).trans h.row, own_keep h.own k, h.fl, by rw [List.filter_append, h.nm]; simp [hK], h.mks, ?_⟩
  intro j c hj hp
  refine h.fr j c hj ?_
  rcases hp with hp | ⟨q, hq, h1, h2⟩
  · exact .inl hp
  · rcases List.mem_append.1 hq with hq | hq
    · exact .inr ⟨q, hq, h1, h2⟩
    · simp only [List.mem_singleton] at hq
      subst hq
      rw [hK] at h1; cases h1
theorem RM.next {L : List Nd} {w W0 : World} {g : Nat} {b : BT} {p : List Nat} {l : List (Nat × Nat × Nat)} {F : List Nat} {v v7 : Value} {wr W w7 : World} (h : RM L w W0 g b p l F v wr) (hT : Tr (shp L) L.length) (hb : Bt (shp L) b 0) (hg : g < W0.heap.size) (hw : w.heap.size ≤ g) (k : Keep wr W) {i a : Nat} {c : BT} (hi : i < L.length) (hK : (shp L).K i = true) (ha : (i, a) ∈ b.fr 0) (hc : Bt (shp L) c ((shp L).A i))
    (hO : OwnM W0.heap.size w7 v7 (l ++ [(i, a, a + c.nl)])) (g7 : W.grownBy w7 v.ownBlock) :
    w7.heap[g]? = some (.cells (UI F).toArray 3 (0, 0)) ∧
    (w7.setCell ⟨g, (shp L).A i, none⟩ (.int .i64 (a : Nat))).heap[g]? = some (.cells (UI (F.set ((shp L).A i) a)).toArray 3 (0, 0)) ∧
    RM L w W0 g b (p ++ [i]) (l ++ [(i, a, a + c.nl)]) ((F.set ((shp L).A i) a).set ((shp L).B i) (a + c.nl)) v7 ((w7.setCell ⟨g, (shp L).A i, none⟩ (.int .i64 (a : Nat))).setCell ⟨g, (shp L).B i, none⟩ (.int .i64 ((a + c.nl : Nat) : Int))) := by
  have hs := h.sz
  have hk := k.le
  have h7 := g7.size
  obtain ⟨hA, hB⟩ := hT.wi.2 i hi hK
  obtain ⟨zA, zB⟩ := hT.z i hi hK
  have hab := hT.ab hi hK
  have hnd : ((b.fr 0).map (·.1)).Nodup := by rw [b.fr_pre, ← ord_bt hT hb]; exact ord_nodup hT.wi
  obtain ⟨c2, hc2, nA, nB⟩ := hb.fr_next 0 (i, a) ha hK
  have e := hc.one hc2
  subst e
  have hbl : ∀ b, b < W0.heap.size → w7.heap[b]? = wr.heap[b]? := fun b hb => (g7.block b (by omega) (fun e => by have := (own_block h.own e.symm).1; omega)).trans (k.block b (by omega))
  have hrow : w7.heap[g]? = some (.cells (UI F).toArray 3 (0, 0)) := (hbl g hg).trans h.row
  have hr2 : (w7.setCell ⟨g, (shp L).A i, none⟩ (.int .i64 (a : Nat))).heap[g]? = some (.cells (UI (F.set ((shp L).A i) a)).toArray 3 (0, 0)) := by
    have := heap_setCell_same w7 g ((shp L).A i) _ 3 (.int .i64 (a : Nat)) hrow
    rw [this]
    simp [UI, List.map_set]
  refine ⟨hrow, hr2, ?_⟩
  refine ⟨?_, by simp only [World.size_setCell]; omega, ?_, ?_, own_set (own_set hO hg) hg, by simp [h.fl], ?_, ?_, ?_⟩
  · exact Below.setCell (Below.setCell (Below.grown (h.kp.trans k) g7 (by have := h.kp.le; omega) (fun b hb => by have := (own_block h.own hb).1; omega)) (p := ⟨g, (shp L).A i, none⟩) hw _) (p := ⟨g, (shp L).B i, none⟩) hw _
  · intro b hb2 hne
    rw [neq_setM _ _ _ _ _ hne, neq_setM _ _ _ _ _ hne, hbl b hb2]
    exact h.low b hb2 hne
  · have := heap_setCell_same _ g ((shp L).B i) _ 3 (.int .i64 ((a + c.nl : Nat) : Int)) hr2
    rw [this]
    simp [UI, List.map_set]
  · rw [List.map_append, List.filter_append, h.nm]; simp [hK]
  · intro x hx
    rcases List.mem_append.1 hx with hx | hx
    · exact h.mks x hx
    · simp only [List.mem_singleton] at hx
      subst hx
      exact ⟨ha, hK, c, hc, rfl⟩
  · intro j d hj hp
    rw [getD_set, getD_set]
    simp only [List.length_set]
    by_cases e1 : (shp L).B i = j ∧ j < F.length
    · rw [if_pos e1]
      obtain ⟨rfl, -⟩ := e1
      exact assoc_one hnd nB hj
    · rw [if_neg e1]
      by_cases e2 : (shp L).A i = j ∧ j < F.length
      · rw [if_pos e2]
        obtain ⟨rfl, -⟩ := e2
        exact assoc_one hnd nA hj
      · rw [if_neg e2]
        refine h.fr j d hj ?_
        rcases hp with hp | ⟨q, hq, h1, h2⟩
        · exact .inl hp
        · rcases List.mem_append.1 hq with hq | hq
          · exact .inr ⟨q, hq, h1, h2⟩
          · simp only [List.mem_singleton] at hq
            subst hq
            rcases h2 with rfl | rfl
            · exact absurd ⟨rfl, by rw [h.fl]; exact hA⟩ e2
            · exact absurd ⟨rfl, by rw [h.fl]; exact hB⟩ e1
end Go.Proofs.Ytaogjiffnebnkaa.Mk
set_option linter.unusedVariables false
set_option linter.unusedSimpArgs false
namespace Go.Proofs.Ytaogjiffnebnkaa.Mk
open Go.RowKit Go.Shelf
attribute [local go_sem] run_store_float
theorem Bt.top {t : Sh} {b : BT} {i : Nat} (h : Bt t b i) (a : Nat) : (i, a) ∈ b.fr a := by
  cases h with
  | leaf h => simp [BT.fr]
  | node h hl hr => simp [BT.fr]
theorem RM.drew {L : List Nd} {w W0 : World} {g : Nat} {b : BT} {p : List Nat} {l : List (Nat × Nat × Nat)} {F : List Nat} {v : Value} {wr : World} (h : RM L w W0 g b p l F v wr) : RM L w W0 g b p l F v wr.drew :=
  ⟨h.kp.drew, h.sz, h.low, h.row, h.own, h.fl, h.nm, h.mks, h.fr⟩
theorem RM.start {L : List Nd} {w w2 w4 : World} {b : BT} (hT : Tr (shp L) L.length) (hb : Bt (shp L) b 0) (k : Keep w w4) (t : w4.heap[w2.heap.size]? = some (.cells (UI (List.replicate L.length 0)).toArray 3 (0, 0))) : RM L w w4 w2.heap.size b [] [] (List.replicate L.length 0) (.slice none 0 0) w4 := by
  refine ⟨k, Nat.le_refl _, fun _ _ _ => rfl, t, OwnM.nil _ _, by simp, rfl, fun x hx => by simp at hx, ?_⟩
  intro j c hj hp
  rcases hp with rfl | ⟨q, hq, -⟩
  · have hnd : ((b.fr 0).map (·.1)).Nodup := by rw [b.fr_pre, ← ord_bt hT hb]; exact ord_nodup hT.wi
    have := assoc_one hnd (hb.top 0) hj
    subst this
    rw [List.getD_eq_getElem?_getD, List.getElem?_replicate]
    split <;> rfl
  · simp at hq
end Go.Proofs.Ytaogjiffnebnkaa.Mk
