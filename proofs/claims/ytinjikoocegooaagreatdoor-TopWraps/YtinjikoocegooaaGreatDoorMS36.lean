import Derived.Test.YtinjikoocegooaaGreatDoorProg
import Derived.Test.YtinjikoocegooaaGreatDoorMS15
import Derived.WalkKit
import Derived.WalkSpells
import Derived.WalkLawsBesides
import Derived.Deep.Draws
import Derived.Deep.QuietTactic
import Derived.BigQuiet
import Derived.Laws.Externs
import Derived.Laws.CopyOwn
import Derived.RangeFuncBox
import Derived.RangeFuncLeaves
import Derived.RangeFuncCalls
import Derived.RangeFuncRecord
import Derived.Below
import Derived.Shelf.Abstract
import Derived.OwnWalkIn
import Derived.TacticsInMore
import Derived.LoopNIn
import Derived.LoopIn
import Derived.Sort.LoopGhostIn
import Derived.Deep.RegionLaw
import Derived.Deep.RegionWith
import Derived.Deep.RegionHeld3
import Derived.Stop.RegionWithIn
import Derived.RegionTactic
import Derived.Orders
import Derived.OrdersIn
import Derived.RegionIn
import Derived.Laws.StructEq
import Derived.Test.YtinjikoocegooaaGreatDoorV2
import Derived.Test.YtinjikoocegooaaGreatDoorYR1
import Derived.Test.YtinjikoocegooaaGreatDoorYX4
import Derived.Test.YtinjikoocegooaaGreatDoorYV1
import Derived.Test.YtinjikoocegooaaGreatDoorYS5
import Derived.Test.YtinjikoocegooaaGreatDoorYU1
import Derived.Test.YtinjikoocegooaaGreatDoorYT6
import Derived.Test.YtinjikoocegooaaGreatDoorYT5
import Derived.Lib.BufferWrite
import Derived.Lib.UnsafeStr
set_option linter.unusedVariables false
set_option linter.unusedSimpArgs false
namespace Go.Proofs.YtinjikoocegooaaGreatDoor
open Go.RowKit Go.Shelf
attribute [local go_sem] Oper.semAt_some
attribute [local go_sem] run_store_float
/-- A node, its sides numbered anew. -/
def rcN (an : List Nat) (N : Nd) : Nd := { N with lf := ((an.getD N.lf.toNat 0 : Nat) : Int), rt := ((an.getD N.rt.toNat 0 : Nat) : Int) }
def rnK (an : List Nat) (r : Nd × Option Addr × Nat) : Nd × Option Addr × Nat := (rcN an r.1, r.2)
/-- The first k of them. -/
def rcF (an : List Nat) (K : List (Nd × Option Addr × Nat)) (k : Nat) : List (Nd × Option Addr × Nat) := (K.take k).map (rnK an) ++ K.drop k
theorem rcF_len (an : List Nat) (K : List (Nd × Option Addr × Nat)) (k : Nat) : (rcF an K k).length = K.length := by simp [rcF]; omega
theorem rcF_at {an : List Nat} {K : List (Nd × Option Addr × Nat)} {k : Nat} (h : k < K.length) : (rcF an K k).getD k nt0 = K.getD k nt0 := by
  unfold rcF List.getD
  rw [List.getElem?_append_right (by simp; omega)]
  simp [Nat.min_eq_left (Nat.le_of_lt h)]
theorem rcF_succ {an : List Nat} {K : List (Nd × Option Addr × Nat)} {k : Nat} (h : k < K.length) : rcF an K (k + 1) = (rcF an K k).set k (rnK an (K.getD k nt0)) := by
  apply List.ext_getElem
  · rw [List.length_set, rcF_len, rcF_len]
  · intro j h1 h2
    rw [List.getElem_set]
    simp only [rcF_len] at h1
    simp only [rcF, List.getElem_append, List.length_map, List.length_take, List.getElem_map, List.getElem_take, List.getElem_drop]
    by_cases e : k = j
    · subst e
      rw [if_pos rfl, dif_pos (by omega)]
      simp [List.getD, h]
    · rw [if_neg e]
      by_cases e2 : j < k
      · rw [dif_pos (by omega), dif_pos (by omega)]
      · rw [dif_neg (by omega), dif_neg (by omega)]
        congr 1
        omega
/-- What Canon's second loop holds between two rounds. -/
structure C2 (n m A : Nat) (an : List Nat) (K : List (Nd × Option Addr × Nat)) (W0 : World) (k : Nat) (W : World) : Prop where
  row : RowI W A an
  bx : W.heap[A + 1]? = some (.cells #[.slice (some ⟨A, 0, none⟩) n n] 28 (0, 0))
  bl : W.heap[A + 3]? = some (.cells #[.slice (some ⟨A + 2, 0, none⟩) m n] 46 (0, 0))
  kr : RowK W (A + 2) n (rcF an K k)
  oth : ∀ g, g < W0.heap.size → g ≠ A + 2 → W.heap[g]? = W0.heap[g]?
  os : W.os = W0.os
  tape : W.tape = W0.tape
  output : W.output = W0.output
  sz : W0.heap.size ≤ W.heap.size
theorem RowK.cells {w : World} {g n : Nat} {K : List (Nd × Option Addr × Nat)} (h : RowK w g n K) {j : Nat} (hj : j < K.length) : ∀ i u, i < 8 → (UN [K.getD j nt0])[i]? = some u → w.cell? ⟨g, j * 8 + i, none⟩ = some u := by
  obtain ⟨cur, h1, h2, h3⟩ := h
  intro i u hi hu
  have e1 : cur.toList[j * 8 + i]? = (UN K)[j * 8 + i]? := by rw [← h3, List.getElem?_take, if_pos (by omega)]
  rw [cell_of_row w g _ cur 81 (0, 0) h1, ← hu, ← UN_get K j i hj hi, ← e1]; simp
theorem UN_set : ∀ (K : List (Nd × Option Addr × Nat)) (k : Nat) (N : Nd) (va : Option Addr) (cc : Nat) (lf rt : Int), k < K.length → K.getD k nt0 = (N, va, cc) → UN (K.set k ({ N with lf := lf, rt := rt }, va, cc)) = ((UN K).set (k * 8 + 6) (.int .i64 lf)).set (k * 8 + 7) (.int .i64 rt)
  | [], k, N, va, cc, lf, rt, h, _ => by simp at h
  | r :: K, 0, N, va, cc, lf, rt, _, he => by
    simp only [List.getD_cons_zero] at he
    subst he
    simp [UN]
  | r :: K, k + 1, N, va, cc, lf, rt, h, he => by
    have ih := UN_set K k N va cc lf rt (by simpa using h) (by simpa using he)
    rw [show (k + 1) * 8 + 6 = (k * 8 + 6) + 1 + 1 + 1 + 1 + 1 + 1 + 1 + 1 by omega, show (k + 1) * 8 + 7 = (k * 8 + 7) + 1 + 1 + 1 + 1 + 1 + 1 + 1 + 1 by omega]
    simp only [List.set_cons_succ, UN]
    rw [ih]
theorem RowK.set2 {w : World} {g n : Nat} {K : List (Nd × Option Addr × Nat)} (h : RowK w g n K) {k : Nat} (hk : k < K.length) (hn : K.length ≤ n) {N : Nd} {va : Option Addr} {cc : Nat} (he : K.getD k nt0 = (N, va, cc)) (lf rt : Int) : RowK ((w.setCell ⟨g, k * 8 + 6, none⟩ (.int .i64 lf)).setCell ⟨g, k * 8 + 7, none⟩ (.int .i64 rt)) g n (K.set k ({ N with lf := lf, rt := rt }, va, cc)) := by
  obtain ⟨cur, h1, h2, h3⟩ := h
  have a1 := heap_setCell_same w g (k * 8 + 6) _ 81 (.int .i64 lf) h1
  have a2 := heap_setCell_same _ g (k * 8 + 7) _ 81 (.int .i64 rt) a1
  refine ⟨_, a2, by simp [h2], ?_⟩
  rw [UN_set K k N va cc lf rt hk he, ← h3]
  simp only [List.length_set, Array.set!_eq_setIfInBounds, Array.toList_setIfInBounds]
  rw [List.take_set, List.take_set]
theorem RowK.ok {w : World} {g n : Nat} {K : List (Nd × Option Addr × Nat)} (h : RowK w g n K) {k i : Nat} (hk : k < n) (hi : i < 8) : (∃ v, w.cell? ⟨g, k * 8 + i, none⟩ = some v) ∧ w.frozen? ⟨g, k * 8 + i, none⟩ = false := by
  obtain ⟨cur, h1, h2, h3⟩ := h
  refine ⟨?_, frozen_of_row w g _ _ 81 h1⟩
  rw [cell_of_row w g _ cur 81 (0, 0) h1]
  have : k * 8 + i < cur.size := by rw [h2]; omega
  exact ⟨_, Array.getElem?_eq_getElem this⟩
theorem Rgt.sides {L : List Nd} (h : Rgt L) {i : Nat} (hi : i < L.length) : (∃ li : Nat, (L.getD i nd0).lf = (li : Nat) ∧ li < L.length) ∧ ∃ ri : Nat, (L.getD i nd0).rt = (ri : Nat) ∧ ri < L.length := by
  by_cases hk : (shp L).K i = true
  · obtain ⟨⟨a1, a2, -⟩, b1, b2, -⟩ := h.kids hi hk
    exact ⟨⟨_, a1, a2⟩, _, b1, b2⟩
  · have hr := h.2 i hi
    have hn := h.1
    simp only [shp, decide_eq_true_eq] at hk
    generalize L.getD i nd0 = n at *
    unfold rightB at hr
    split at hr
    · simp only [Bool.and_eq_true, decide_eq_true_eq] at hr
      exact ⟨⟨0, by have := hr.1.2; simpa using this, hn⟩, 0, by have := hr.2; simpa using this, hn⟩
    · rw [if_neg (by omega), if_neg (by omega)] at hr
      cases hr
theorem results_cell_tmp {P : Program} {fn : Func} {p u : Tmp} {ty : TypeId} (h : fn.results = #[.cell p ty, .tmp u]) (tmps : Array Value) (w : World) (g : Nat) (t : TypeId) (cs : Array Value) (fr : Nat × Nat) (d : TypeDesc)
    (hp : tmps.getD p undef = .pointer (some ⟨g, 0, none⟩)) (hg : w.heap[g]? = some (.cells cs t fr))
    (hu : P.underlying ty = some d) (hd : (match d with | .struct _ | .array _ _ => true | _ => false) = true) (hi : (P.info? ty).map (·.size) = some cs.size) :
    (results fn tmps).run P w = .ok (.tuple #[.agg cs, tmps.getD u undef]) w := by
  have hp' : tmps[p]?.getD undef = .pointer (some ⟨g, 0, none⟩) := by simpa using hp
  simp [results, h, hp', asAddr, run_loadVar_row w g t ty cs fr d hg hu hd hi]
theorem anF_le (n : Nat) (p : List Nat) (i : Nat) : (anF n p).getD i 0 ≤ p.length := by
  have h : ∀ (l : List (Nat × Nat)) (a : List Nat) (B : Nat), (∀ y ∈ l, y.2 ≤ B) → (∀ v ∈ a, v ≤ B) → ∀ v ∈ l.foldl (fun a y => a.set y.1 y.2) a, v ≤ B := by
    intro l
    induction l with
    | nil => intro a B _ h2; exact h2
    | cons y l ih =>
      intro a B h1 h2
      rw [List.foldl_cons]
      refine ih _ B (fun z hz => h1 z (List.mem_cons_of_mem _ hz)) ?_
      intro v hv
      rcases List.mem_or_eq_of_mem_set hv with h | h
      · exact h2 v h
      · rw [h]; exact h1 y (List.mem_cons_self ..)
  by_cases hi : i < (anF n p).length
  · have hm : (anF n p).getD i 0 ∈ anF n p := by simp [List.getD, hi]
    refine h p.zipIdx (List.replicate n 0) p.length ?_ ?_ _ hm
    · rintro ⟨y1, y2⟩ hy
      have := List.snd_lt_of_mem_zipIdx hy
      simp at this ⊢
      omega
    · intro v hv
      rw [List.eq_of_mem_replicate hv]; omega
  · have : (anF n p).getD i 0 = 0 := by simp [List.getD, List.getElem?_eq_none (Nat.le_of_not_lt hi)]
    omega
theorem RowK.rdN {w : World} {g n : Nat} {K : List (Nd × Option Addr × Nat)} (h : RowK w g n K) (hc : ∀ j, j < K.length → RdI w (K.getD j nt0).2.1 (K.getD j nt0).1.cs ∧ (K.getD j nt0).1.cs.length ≤ (K.getD j nt0).2.2 ∧ (K.getD j nt0).1.cs.length ≤ 17592186044416 ∧ (K.getD j nt0).1.Fit) : RdN w (some ⟨g, 0, none⟩) (K.map (fun r => r.1)) := by
  intro j hj
  have hj' : j < K.length := by simpa using hj
  obtain ⟨h1, h2, h3, h4⟩ := hc j hj'
  have hcs := h.cells hj'
  refine ⟨g, 0, (K.getD j nt0).2.1, (K.getD j nt0).2.2, rfl, ?_⟩
  have e : (K.map (fun r => r.1)).getD j nd0 = (K.getD j nt0).1 := by simp [List.getD, hj']
  rw [e, Nat.zero_add]
  exact ⟨hcs 0 _ (by omega) rfl, hcs 1 _ (by omega) rfl, hcs 2 _ (by omega) rfl, hcs 3 _ (by omega) rfl, hcs 4 _ (by omega) rfl, hcs 5 _ (by omega) rfl, hcs 6 _ (by omega) rfl, hcs 7 _ (by omega) rfl, h1, h2, h3, h4⟩
theorem rcF_all (an : List Nat) (K : List (Nd × Option Addr × Nat)) : rcF an K K.length = K.map (rnK an) := by simp [rcF]
/-- The nodes numbered anew. -/
def cnoL (L : List Nd) : List Nd := (ord (shp L) L.length).map (fun i => rcN (anF L.length (ord (shp L) L.length)) (L.getD i nd0))
def c2V (A s k m n li ri X Y : Nat) : Nat → Value
  | 0 => .slice (some ⟨A + 2, 0, none⟩) m n
  | 1 => .int .i64 (k : Nat)
  | 2 => .slice (some ⟨A + 2, 0, none⟩) m n
  | 3 => .int .i64 (k : Nat)
  | 4 => .slice (some ⟨A, 0, none⟩) n n
  | 5 => .pointer (some ⟨s, 6, none⟩)
  | 6 => .int .i64 (li : Nat)
  | 7 => .pointer (some ⟨A, li, none⟩)
  | 8 => .int .i64 (X : Nat)
  | 9 => .slice (some ⟨A, 0, none⟩) n n
  | 10 => .pointer (some ⟨s, 7, none⟩)
  | 11 => .int .i64 (ri : Nat)
  | 12 => .pointer (some ⟨A, ri, none⟩)
  | 13 => .int .i64 (Y : Nat)
  | 14 => .pointer (some ⟨A + 2, k * 8, none⟩)
  | 15 => .pointer (some ⟨A + 2, k * 8 + 6, none⟩)
  | 17 => .pointer (some ⟨A + 2, k * 8, none⟩)
  | 18 => .pointer (some ⟨A + 2, k * 8 + 7, none⟩)
  | _ => undef
def c2I (V : Nat → Value) (W1 Wa Wb : World) (FR : (Nat → Value) → Act) (l : Array Bool) (Ac : Act) (w : World) : Prop :=
  l.size = 20 ∧ (∃ x : Nat → Value, Ac = FR x ∧ ∀ j, j < 19 → j ≠ 16 → l.getD j false = true → x j = V j) ∧ w = (if l.getD 19 false = true then Wb else if l.getD 16 false = true then Wa else W1) ∧ (l.getD 19 false = true → ∀ j, j < 19 → l.getD j false = true) ∧ (l.getD 18 false = true → l.getD 17 false = true)
theorem c2I.pure {V : Nat → Value} {W1 Wa Wb : World} {FR : (Nat → Value) → Act} {l : Array Bool} {x : Nat → Value} {A' : Act} {w : World} {i : Nat} (hs : l.size = 20) (hx : ∀ j, j < 19 → j ≠ 16 → l.getD j false = true → x j = V j) (hw : w = (if l.getD 19 false = true then Wb else if l.getD 16 false = true then Wa else W1)) (h19 : l.getD 19 false = true → ∀ j, j < 19 → l.getD j false = true) (h18 : l.getD 18 false = true → l.getD 17 false = true)
    (hi : i < 19) (hi2 : i ≠ 16) (hd : i = 18 → l.getD 17 false = true) (hA : A' = FR (updV x i (V i))) : c2I V W1 Wa Wb FR (l.setIfInBounds i true) A' w := by
  have up : ∀ j, l.getD j false = true → (l.setIfInBounds i true).getD j false = true := fun j h => by rw [fl_set (by omega)]; split; rfl; exact h
  have dn : ∀ j, (l.setIfInBounds i true).getD j false = true → j = i ∨ l.getD j false = true := fun j h => by rw [fl_set (by omega)] at h; split at h; (left; assumption); exact .inr h
  refine ⟨by simpa using hs, ⟨_, hA, ?_⟩, ?_, ?_, ?_⟩
  · intro j h1 h2 h
    rcases dn j h with e | h
    · subst e; simp [updV]
    · by_cases e : j = i
      · subst e; simp [updV]
      · simp only [updV, if_neg e]; exact hx j h1 h2 h
  · have e19 : (l.setIfInBounds i true).getD 19 false = l.getD 19 false := by rw [fl_set (by omega), if_neg (by omega)]
    have e16 : (l.setIfInBounds i true).getD 16 false = l.getD 16 false := by rw [fl_set (by omega), if_neg (by omega)]
    rw [e19, e16]; exact hw
  · intro h j hj
    rcases dn 19 h with e | h
    · omega
    · exact up j (h19 h j hj)
  · intro h
    rcases dn 18 h with e | h
    · exact up 17 (hd e.symm)
    · exact up 17 (h18 h)
theorem c2I.st16 {V : Nat → Value} {W1 Wa Wb : World} {FR : (Nat → Value) → Act} {l : Array Bool} {x : Nat → Value} {A' : Act} (hs : l.size = 20) (hx : ∀ j, j < 19 → j ≠ 16 → l.getD j false = true → x j = V j) (h19 : l.getD 19 false = false) (h18 : l.getD 18 false = true → l.getD 17 false = true) (hA : A' = FR x) : c2I V W1 Wa Wb FR (l.setIfInBounds 16 true) A' Wa := by
  have dn : ∀ j, j ≠ 16 → (l.setIfInBounds 16 true).getD j false = l.getD j false := fun j h => by rw [fl_set (by omega), if_neg h]
  refine ⟨by simpa using hs, ⟨x, hA, fun j h1 h2 h => hx j h1 h2 (by rw [← dn j h2]; exact h)⟩, ?_, ?_, ?_⟩
  · rw [dn 19 (by omega), h19, set_same (by omega)]; rfl
  · intro h; rw [dn 19 (by omega), h19] at h; cases h
  · intro h; rw [dn 18 (by omega)] at h; rw [dn 17 (by omega)]; exact h18 h
theorem c2I.st19 {V : Nat → Value} {W1 Wa Wb : World} {FR : (Nat → Value) → Act} {l : Array Bool} {x : Nat → Value} {A' : Act} (hs : l.size = 20) (hx : ∀ j, j < 19 → j ≠ 16 → l.getD j false = true → x j = V j) (ha : ∀ j, j < 19 → l.getD j false = true) (hA : A' = FR x) : c2I V W1 Wa Wb FR (l.setIfInBounds 19 true) A' Wb := by
  have dn : ∀ j, j ≠ 19 → (l.setIfInBounds 19 true).getD j false = l.getD j false := fun j h => by rw [fl_set (by omega), if_neg h]
  refine ⟨by simpa using hs, ⟨x, hA, fun j h1 h2 h => hx j h1 h2 (by rw [← dn j (by omega)]; exact h)⟩, ?_, ?_, ?_⟩
  · rw [set_same (by omega)]; rfl
  · intro _ j hj; rw [dn j (by omega)]; exact ha j hj
  · intro _; rw [dn 17 (by omega)]; exact ha 17 (by omega)
end Go.Proofs.YtinjikoocegooaaGreatDoor
set_option linter.unusedVariables false
set_option linter.unusedSimpArgs false
namespace Go.Proofs.YtinjikoocegooaaGreatDoor
open Go.RowKit Go.Shelf
attribute [local go_sem] Oper.semAt_some
attribute [local go_sem] run_store_float
/-- What Canon answers. -/
def cnoO (L : List Nd) (out : Int) : Int := if shE L = 0 then out else 0
def cnoN (L : List Nd) : List Nd := if shE L = 0 then cnoL L else []
theorem cnoN_len (L : List Nd) (hLn : L.length ≤ 2199023255552) : (cnoN L).length ≤ 2199023255552 := by
  unfold cnoN
  split
  · rename_i h
    unfold cnoL
    have := ord_len (shE_rgt h).wi
    rw [List.length_map]
    omega
  · simp
end Go.Proofs.YtinjikoocegooaaGreatDoor
set_option linter.unusedVariables false
set_option linter.unusedSimpArgs false
namespace Go.Proofs.YtinjikoocegooaaGreatDoor
open Go.RowKit Go.Shelf
/-- What the making of an ensemble's trees holds between two rounds: the row lies in the last field of the box B. -/
structure CJt (us : List (Int × List Nd)) (w2 W : World) (B : Nat) (h0 h1 h2 h3 : Value) (k : Nat) (v : Value) (wr : World) (K : List (Int × Option Addr × Nat × Nat)) : Prop where
  len : K.length = k
  eq : ∀ j, j < k → (K.getD j tt0).1 = (us.getD j (0, [])).1 ∧ (K.getD j tt0).2.2.1 = (us.getD j (0, [])).2.length ∧ (us.getD j (0, [])).2.length ≤ (K.getD j tt0).2.2.2
  own : OwnT W.heap.size wr v K
  ct : ∀ j, j < k → CT wr (fun b => W.heap.size ≤ b ∧ b < wr.heap.size ∧ v.ownBlock ≠ some b) (K.getD j tt0).2.1 (K.getD j tt0).2.2.2 (us.getD j (0, [])).2
  kp : Keep w2 wr
  sz : W.heap.size ≤ wr.heap.size
  bx : wr.heap[B]? = some (.cells #[h0, h1, h2, h3, v] 26 (0, 0))
  low : ∀ b, b < W.heap.size → b ≠ B → wr.heap[b]? = W.heap[b]?
theorem CJt.step {us : List (Int × List Nd)} {w2 W : World} {B : Nat} {h0 h1 h2 h3 : Value} {k : Nat} {v : Value} {wr : World} {K : List (Int × Option Addr × Nat × Nat)} (hI : CJt us w2 W B h0 h1 h2 h3 k v wr K) (hB : B < W.heap.size) (hB2 : w2.heap.size ≤ B) {out : Int} {L : List Nd} {an : Option Addr} {cn : Nat} {w6 w7 : World} {v' : Value} {ob : Obj}
    (hT : us.getD k (0, []) = (out, L)) (kw : Keep wr w6) (hC : CT w6 (fun b => wr.heap.size ≤ b ∧ b < w6.heap.size) an cn L) (hc : L.length ≤ cn) (hO : OwnT W.heap.size w7 v' (K ++ [(out, an, L.length, cn)])) (g7 : (w6.alloc ob).grownBy w7 v.ownBlock) (hv : v'.ownBlock = v.ownBlock ∨ v'.ownBlock = some (w6.heap.size + 1)) :
    CJt us w2 W B h0 h1 h2 h3 (k + 1) v' (w7.setCell ⟨B, 4, none⟩ v') (K ++ [(out, an, L.length, cn)]) := by
  have hlt : ∀ b, v.ownBlock = some b → W.heap.size ≤ b ∧ b < wr.heap.size := by
    intro b hb
    obtain ⟨h1, cur, hc⟩ := hI.own.block hb
    exact ⟨h1, (Array.getElem?_eq_some_iff.1 hc).1⟩
  have hle := kw.le
  have hle0 := hI.sz
  have ka : Keep w6 (w6.alloc ob) := (Keep.refl w6).alloc _
  have hsz := g7.size
  rw [World.size_alloc] at hsz
  have hne0 : v.ownBlock ≠ some B := fun e => by have := (hlt B e).1; omega
  have hbl : ∀ b, b < w6.heap.size → v.ownBlock ≠ some b → w7.heap[b]? = w6.heap[b]? := fun b hb hne => (g7.block b (by rw [World.size_alloc]; omega) (fun e => hne e.symm)).trans (ka.block b hb)
  have hbs : ∀ b, b ≠ B → (w7.setCell ⟨B, 4, none⟩ v').heap[b]? = w7.heap[b]? := fun b hb => neq_set w7 _ _ _ b hb
  have hss : (w7.setCell ⟨B, 4, none⟩ v').heap.size = w7.heap.size := by simp
  have hne' : ∀ b, b < w6.heap.size → v.ownBlock ≠ some b → v'.ownBlock ≠ some b := by
    intro b hb hne e
    rcases hv with h | h
    · rw [h] at e; exact hne e
    · rw [h] at e; simp only [Option.some.injEq] at e; omega
  refine ⟨by rw [List.length_append, hI.len]; rfl, ?_, ?_, ?_, ?_, ?_, ?_, ?_⟩
  · intro j hj
    rw [getD_snocT, hI.len]
    by_cases e : j = k
    · rw [if_pos e, e, hT]; exact ⟨rfl, rfl, hc⟩
    · rw [if_neg e]; exact hI.eq j (by omega)
  · exact hO.same (fun b hb => hbs b (by have := (hO.block hb).1; omega))
  · intro j hj
    rw [getD_snocT, hI.len]
    by_cases e : j = k
    · rw [if_pos e, e, hT]
      refine hC.same ?_ ?_
      · rintro b ⟨h1, h2⟩
        rw [hbs b (by omega)]
        exact hbl b h2 (fun e => by have := hlt b e; omega)
      · rintro b ⟨h1, h2⟩
        exact ⟨by omega, by omega, hne' b h2 (fun e => by have := hlt b e; omega)⟩
    · rw [if_neg e]
      refine (hI.ct j (by omega)).same ?_ ?_
      · rintro b ⟨h1, h2, h3⟩
        rw [hbs b (by omega), hbl b (by omega) h3, kw.block b h2]
      · rintro b ⟨h1, h2, h3⟩
        exact ⟨h1, by omega, hne' b (by omega) h3⟩
  · exact Keep.setCell (Below.grown ((hI.kp.trans kw).alloc _) g7 (by rw [World.size_alloc]; have := hI.kp.le; omega) (fun b hb => by have := (hlt b hb).1; omega)) (p := ⟨B, 4, none⟩) hB2 _
  · omega
  · have e1 : w7.heap[B]? = some (.cells #[h0, h1, h2, h3, v] 26 (0, 0)) := (hbl B (by omega) hne0).trans ((kw.block B (by omega)).trans hI.bx)
    have := heap_setCell_same w7 B 4 _ 26 v' e1
    simpa using this
  · intro b hb hbB
    rw [hbs b hbB, hbl b (by omega) (fun e => by have := (hlt b e).1; omega), kw.block b (by omega)]
    exact hI.low b hb hbB
theorem CJt.rdT {us : List (Int × List Nd)} {w2 W wr wf : World} {B : Nat} {h0 h1 h2 h3 : Value} {ta : Option Addr} {ct : Nat} {K : List (Int × Option Addr × Nat × Nat)} (hI : CJt us w2 W B h0 h1 h2 h3 us.length (.slice ta us.length ct) wr K) (hs : ∀ b, W.heap.size ≤ b → wf.heap[b]? = wr.heap[b]?)
    (hn : ∀ j, j < us.length → ∃ w0 a0, RdN w0 a0 (us.getD j (0, [])).2 ∧ (us.getD j (0, [])).2.length ≤ 2199023255552 ∧ (-9223372036854775808 ≤ (us.getD j (0, [])).1 ∧ (us.getD j (0, [])).1 ≤ 9223372036854775807)) : RdT wf ta us ∧ us.length ≤ ct := by
  have ho : OwnT W.heap.size wf (.slice ta us.length ct) K := hI.own.same (fun b hb => hs b (hI.own.block hb).1)
  obtain ⟨a', c', e, hc, hr⟩ := ho.shape
  simp only [Value.slice.injEq] at e
  obtain ⟨rfl, -, rfl⟩ := e
  rw [hI.len] at hc
  refine ⟨?_, hc⟩
  intro j hj
  obtain ⟨b, rfl, hb⟩ := hr j (by rw [hI.len]; exact hj)
  obtain ⟨w0, a0, hn, hl, hf⟩ := hn j hj
  obtain ⟨e1, e2, e3⟩ := hI.eq j hj
  have hC : CT wf (fun _ => True) _ _ _ := (hI.ct j hj).same (fun b hb => hs b hb.1) (fun _ _ => trivial)
  have c0 := hb 0 _ (by omega) rfl
  have c1 := hb 1 _ (by omega) rfl
  rw [e1] at c0
  rw [e2] at c1
  exact ⟨b, 0, _, _, rfl, by rw [Nat.zero_add]; exact c0, by rw [Nat.zero_add]; exact c1, hC.rdN hn, e3, hl, hf⟩
end Go.Proofs.YtinjikoocegooaaGreatDoor
set_option linter.unusedVariables false
set_option linter.unusedSimpArgs false
namespace Go.Proofs.YtinjikoocegooaaGreatDoor
open Go.RowKit Go.Shelf
/-- The first tree's fault. -/
def mdE : List (Int × List Nd) → Int
  | [] => 0
  | t :: ts => if shE t.2 = 0 then mdE ts else shE t.2
/-- The trees numbered anew. -/
def mdT (ts : List (Int × List Nd)) : List (Int × List Nd) := ts.map (fun t => (cnoO t.2 t.1, cnoN t.2))
theorem mdT_at {ts : List (Int × List Nd)} {k : Nat} (h : k < ts.length) {out : Int} {L : List Nd} (hT : ts.getD k (0, []) = (out, L)) : (mdT ts).getD k (0, []) = (cnoO L out, cnoN L) := by
  have e : ts[k] = (out, L) := by simpa [List.getD, h] using hT
  simp [mdT, List.getD, h, e]
theorem mdE_ok {ts : List (Int × List Nd)} {k : Nat} (h : k < ts.length) {out : Int} {L : List Nd} (hT : ts.getD k (0, []) = (out, L)) (hE : shE L = 0) : mdE (ts.drop k) = mdE (ts.drop (k + 1)) := by
  rw [drop_one ts k (0, []) h, hT, mdE, if_pos hE]
theorem mdE_bad {ts : List (Int × List Nd)} {k : Nat} (h : k < ts.length) {out : Int} {L : List Nd} (hT : ts.getD k (0, []) = (out, L)) (hE : shE L ≠ 0) : mdE (ts.drop k) = shE L := by
  rw [drop_one ts k (0, []) h, hT, mdE, if_neg hE]
end Go.Proofs.YtinjikoocegooaaGreatDoor
set_option linter.unusedVariables false
set_option linter.unusedSimpArgs false
namespace Go.Proofs.YtinjikoocegooaaGreatDoor
open Go.RowKit Go.Shelf
theorem ord_full {L : List Nd} (h : shE L = 0) : (ord (shp L) L.length).length = L.length := by
  have ht := shE_tr h
  have h1 := ord_len ht.wi
  have h2 := List.Nodup.length_le_of_subset (l₁ := List.range L.length) (l₂ := ord (shp L) L.length) List.nodup_range (fun i hi => ord_all ht (List.mem_range.1 hi))
  rw [List.length_range] at h2
  omega
theorem zip_other : ∀ (l : List Nat) (s : Nat) (a : List Nat) (x : Nat), x ∉ l → ((l.zipIdx s).foldl (fun a y => a.set y.1 y.2) a).getD x 0 = a.getD x 0
  | [], s, a, x, _ => rfl
  | y :: l, s, a, x, h => by
    rw [List.zipIdx_cons, List.foldl_cons, zip_other l (s + 1) _ x (fun e => h (List.mem_cons_of_mem _ e))]
    have hne : y ≠ x := fun e => h (e ▸ List.mem_cons_self ..)
    simp [List.getD, List.getElem?_set, hne]
theorem zip_at : ∀ (l : List Nat) (s : Nat) (a : List Nat) (j : Nat), l.Nodup → (hj : j < l.length) → l[j] < a.length → ((l.zipIdx s).foldl (fun a y => a.set y.1 y.2) a).getD l[j] 0 = s + j
  | [], s, a, j, _, hj, _ => by simp at hj
  | y :: l, s, a, 0, hn, _, hl => by
    rw [List.zipIdx_cons, List.foldl_cons]
    simp only [List.getElem_cons_zero] at hl ⊢
    rw [zip_other l (s + 1) _ y (List.nodup_cons.1 hn).1]
    simp [List.getD, hl]
  | y :: l, s, a, j + 1, hn, hj, hl => by
    rw [List.zipIdx_cons, List.foldl_cons]
    simp only [List.getElem_cons_succ] at hl ⊢
    rw [zip_at l (s + 1) _ j (List.nodup_cons.1 hn).2 (by simpa using hj) (by simpa using hl)]
    omega
/-- anF is the inverse of the order. -/
theorem anF_at {n : Nat} {p : List Nat} (hn : p.Nodup) {j : Nat} (hj : j < p.length) (hl : p[j] < n) : (anF n p).getD p[j] 0 = j := by
  unfold anF
  rw [zip_at p 0 _ j hn hj (by simpa using hl)]
  omega
theorem ord_head (t : Sh) (n : Nat) : ∃ q, ord t n = 0 :: q := by
  have h : [0] <+: ord t n := by
    unfold ord
    rw [show 3 * n + 1 = (3 * n) + 1 from rfl, go]
    simp only [List.not_mem_nil, if_false, List.nil_append]
    exact go_pre t _ _ _
  obtain ⟨q, hq⟩ := h
  exact ⟨q, by rw [← hq]; rfl⟩
theorem anF_zero {L : List Nd} (h : shE L = 0) : (anF L.length (ord (shp L) L.length)).getD 0 0 = 0 := by
  have ht := shE_tr h
  obtain ⟨q, hq⟩ := ord_head (shp L) L.length
  have hl : 0 < (ord (shp L) L.length).length := by rw [hq]; simp
  have e : (ord (shp L) L.length)[0] = 0 := by simp [hq]
  have := anF_at (n := L.length) (ord_nodup ht.wi) hl (by rw [e]; exact (shE_rgt h).1)
  rw [e] at this
  exact this
/-- A leaf stays as it is. -/
theorem rcN_leaf {L : List Nd} (h : shE L = 0) {i : Nat} (hi : i < L.length) (hk : (L.getD i nd0).kd = 1) : rcN (anF L.length (ord (shp L) L.length)) (L.getD i nd0) = L.getD i nd0 := by
  have hr := (shE_rgt h).2 i hi
  have hz := anF_zero h
  generalize L.getD i nd0 = n at *
  unfold rightB at hr
  rw [if_pos hk] at hr
  simp only [Bool.and_eq_true, decide_eq_true_eq] at hr
  have e1 : n.lf = 0 := hr.1.2
  have e2 : n.rt = 0 := hr.2
  obtain ⟨kd, vl, ft, th, cs, ms, lf, rt⟩ := n
  simp only at e1 e2
  subst e1 e2
  unfold rcN
  simp only [Int.toNat_zero, hz]
  rfl
end Go.Proofs.YtinjikoocegooaaGreatDoor
set_option linter.unusedVariables false
set_option linter.unusedSimpArgs false
namespace Go.Proofs.YtinjikoocegooaaGreatDoor
/-- Numbered anew by f: the same shape. -/
structure Iso (t u : Sh) (n : Nat) (f : Nat → Nat) : Prop where
  z : f 0 = 0
  lt : ∀ i, i < n → f i < n
  inj : ∀ i j, i < n → j < n → f i = f j → i = j
  sur : ∀ j, j < n → ∃ i, i < n ∧ f i = j
  k : ∀ i, i < n → u.K (f i) = t.K i
  a : ∀ i, i < n → t.K i = true → u.A (f i) = f (t.A i)
  b : ∀ i, i < n → t.K i = true → u.B (f i) = f (t.B i)
theorem Iso.rch {t u : Sh} {n i : Nat} {f : Nat → Nat} (h : Iso t u n f) (ht : In t n) (r : Rch t i) : Rch u (f i) := by
  induction r with
  | zero => rw [h.z]; exact .zero
  | left r hk ih =>
    have hi := r.lt ht
    rw [← h.a _ hi hk]
    exact .left ih ((h.k _ hi).trans hk)
  | right r hk ih =>
    have hi := r.lt ht
    rw [← h.b _ hi hk]
    exact .right ih ((h.k _ hi).trans hk)
def one (t : Sh) (j i : Nat) : Nat := (if t.K i = true ∧ t.A i = j then 1 else 0) + (if t.K i = true ∧ t.B i = j then 1 else 0)
theorem cnt_sum (t : Sh) (j : Nat) : ∀ m, cnt t j m = ((List.range m).map (one t j)).sum
  | 0 => rfl
  | m + 1 => by
    rw [cnt, cnt_sum t j m, List.range_succ, List.map_append, List.sum_append]
    simp [one, Nat.add_assoc]
theorem perm_sum {l r : List Nat} (h : l.Perm r) : l.sum = r.sum := by
  induction h with
  | nil => rfl
  | cons x _ ih => simp [ih]
  | swap x y l => simp; omega
  | trans _ _ h1 h2 => exact h1.trans h2
theorem nodup_map {f : Nat → Nat} {n : Nat} (hf : ∀ i j, i < n → j < n → f i = f j → i = j) : ∀ {l : List Nat}, (∀ i ∈ l, i < n) → l.Nodup → (l.map f).Nodup
  | [], _, _ => by simp
  | x :: l, hl, hn => by
    rw [List.nodup_cons] at hn
    rw [List.map_cons, List.nodup_cons]
    refine ⟨fun e => ?_, nodup_map hf (fun i hi => hl i (List.mem_cons_of_mem _ hi)) hn.2⟩
    obtain ⟨j, hj, e⟩ := List.mem_map.1 e
    exact hn.1 (hf j x (hl j (List.mem_cons_of_mem _ hj)) (hl x (List.mem_cons_self ..)) e ▸ hj)
theorem Iso.perm {t u : Sh} {n : Nat} {f : Nat → Nat} (h : Iso t u n f) : ((List.range n).map f).Perm (List.range n) := by
  rw [List.perm_ext_iff_of_nodup (nodup_map h.inj (fun i hi => List.mem_range.1 hi) List.nodup_range) List.nodup_range]
  intro j
  rw [List.mem_map, List.mem_range]
  constructor
  · rintro ⟨i, hi, rfl⟩; exact h.lt i (List.mem_range.1 hi)
  · intro hj
    obtain ⟨i, hi, e⟩ := h.sur j hj
    exact ⟨i, List.mem_range.2 hi, e⟩
theorem Iso.one {t u : Sh} {n : Nat} {f : Nat → Nat} (h : Iso t u n f) (ht : In t n) {i j : Nat} (hi : i < n) (hj : j < n) : one u (f j) (f i) = one t j i := by
  unfold Go.Proofs.YtinjikoocegooaaGreatDoor.one
  rw [h.k i hi]
  cases hk : t.K i with
  | false => simp
  | true =>
    rw [h.a i hi hk, h.b i hi hk]
    have hl := ht.2 i hi hk
    have e1 : (f (t.A i) = f j) = (t.A i = j) := propext ⟨fun e => h.inj _ _ hl.1 hj e, fun e => by rw [e]⟩
    have e2 : (f (t.B i) = f j) = (t.B i = j) := propext ⟨fun e => h.inj _ _ hl.2 hj e, fun e => by rw [e]⟩
    simp only [e1, e2]
theorem Iso.cnt {t u : Sh} {n : Nat} {f : Nat → Nat} (h : Iso t u n f) (ht : In t n) {j : Nat} (hj : j < n) : cnt u (f j) n = cnt t j n := by
  rw [cnt_sum, cnt_sum, ← perm_sum (h.perm.map (Go.Proofs.YtinjikoocegooaaGreatDoor.one u (f j))), List.map_map]
  congr 1
  apply List.map_congr_left
  intro i hi
  exact h.one ht (List.mem_range.1 hi) hj
theorem Iso.inn {t u : Sh} {n : Nat} {f : Nat → Nat} (h : Iso t u n f) (ht : In t n) : In u n := by
  refine ⟨ht.1, fun j hj hk => ?_⟩
  obtain ⟨i, hi, rfl⟩ := h.sur j hj
  have hk' : t.K i = true := (h.k i hi).symm.trans hk
  rw [h.a i hi hk', h.b i hi hk']
  exact ⟨h.lt _ (ht.2 i hi hk').1, h.lt _ (ht.2 i hi hk').2⟩
theorem Iso.tr {t u : Sh} {n : Nat} {f : Nat → Nat} (h : Iso t u n f) (ht : Tr t n) : Tr u n := by
  refine ⟨h.inn ht.wi, fun j hj hk => ?_, fun j h0 hj => ?_, fun j hj => ?_⟩
  · obtain ⟨i, hi, rfl⟩ := h.sur j hj
    have hk' : t.K i = true := (h.k i hi).symm.trans hk
    rw [h.a i hi hk', h.b i hi hk']
    have hz := ht.z i hi hk'
    have hl := ht.wi.2 i hi hk'
    exact ⟨fun e => hz.1 (h.inj _ _ hl.1 ht.wi.1 (e.trans h.z.symm)), fun e => hz.2 (h.inj _ _ hl.2 ht.wi.1 (e.trans h.z.symm))⟩
  · obtain ⟨i, hi, rfl⟩ := h.sur j hj
    rw [h.cnt ht.wi hi]
    exact ht.one i (by
      rcases Nat.eq_zero_or_pos i with e | e
      · rw [e, h.z] at h0; exact absurd h0 (Nat.lt_irrefl _)
      · exact e) hi
  · obtain ⟨i, hi, rfl⟩ := h.sur j hj
    exact h.rch ht.wi (ht.re i hi)
end Go.Proofs.YtinjikoocegooaaGreatDoor
set_option linter.unusedVariables false
set_option linter.unusedSimpArgs false
namespace Go.Proofs.YtinjikoocegooaaGreatDoor
open Go.RowKit Go.Shelf
/-- Where a node of a right tree stands, numbered anew. -/
def phi (L : List Nd) (i : Nat) : Nat := (anF L.length (ord (shp L) L.length)).getD i 0
theorem phi_ord {L : List Nd} (h : shE L = 0) {j : Nat} (hj : j < L.length) : (ord (shp L) L.length).getD j 0 < L.length ∧ phi L ((ord (shp L) L.length).getD j 0) = j := by
  have ht := shE_tr h
  have hj' : j < (ord (shp L) L.length).length := by rw [ord_full h]; exact hj
  have e : (ord (shp L) L.length).getD j 0 = (ord (shp L) L.length)[j] := by simp [List.getD, hj']
  have hl : (ord (shp L) L.length)[j] < L.length := ord_lt ht.wi _ (List.getElem_mem _)
  rw [e]
  exact ⟨hl, anF_at (ord_nodup ht.wi) hj' hl⟩
theorem phi_inv {L : List Nd} (h : shE L = 0) {i : Nat} (hi : i < L.length) : phi L i < L.length ∧ (ord (shp L) L.length).getD (phi L i) 0 = i := by
  have ht := shE_tr h
  obtain ⟨j, hj, e⟩ := List.getElem_of_mem (ord_all ht hi)
  have hj' : j < L.length := by rw [← ord_full h]; exact hj
  have e2 : (ord (shp L) L.length).getD j 0 = i := by simp [List.getD, hj, e]
  have := (phi_ord h hj').2
  rw [e2] at this
  rw [this]
  exact ⟨hj', e2⟩
theorem cno_len {L : List Nd} (h : shE L = 0) : (cnoL L).length = L.length := by
  unfold cnoL
  rw [List.length_map, ord_full h]
theorem cno_get {L : List Nd} (h : shE L = 0) {i : Nat} (hi : i < L.length) : (cnoL L).getD (phi L i) nd0 = rcN (anF L.length (ord (shp L) L.length)) (L.getD i nd0) := by
  have h1 := phi_inv h hi
  have h2 : phi L i < (ord (shp L) L.length).length := by rw [ord_full h]; exact h1.1
  have h3 : (ord (shp L) L.length)[phi L i] = i := by
    have := h1.2
    simpa [List.getD, h2] using this
  unfold cnoL
  simp [List.getD, h2, h3]
theorem cno_iso {L : List Nd} (h : shE L = 0) : Iso (shp L) (shp (cnoL L)) L.length (phi L) := by
  refine ⟨anF_zero h, fun i hi => (phi_inv h hi).1, fun i j hi hj e => ?_, fun j hj => ⟨_, phi_ord h hj⟩, fun i hi => ?_, fun i hi _ => ?_, fun i hi _ => ?_⟩
  · have h1 := (phi_inv h hi).2
    rw [e, (phi_inv h hj).2] at h1
    exact h1.symm
  · show decide (((cnoL L).getD (phi L i) nd0).kd = 2 ∨ ((cnoL L).getD (phi L i) nd0).kd = 3) = _
    rw [cno_get h hi]
    rfl
  · show ((cnoL L).getD (phi L i) nd0).lf.toNat = _
    rw [cno_get h hi]
    rfl
  · show ((cnoL L).getD (phi L i) nd0).rt.toNat = _
    rw [cno_get h hi]
    rfl
theorem badF_all {L : List Nd} (h : ∀ i, i < L.length → rightB (L.getD i nd0) L.length = true) : ∀ (f k : Nat), k + f ≤ L.length → badF L f k = none
  | 0, k, _ => rfl
  | f + 1, k, hk => by
    rw [badF, if_pos (h k (by omega))]
    exact badF_all h f (k + 1) (by omega)
theorem misF_all {L : List Nd} (h : Tr (shp L) L.length) : ∀ (f k : Nat), 0 < k → k + f ≤ L.length → misF L f k = 0
  | 0, k, _, _ => rfl
  | f + 1, k, h0, hk => by
    have : misB L k = false := by
      unfold misB
      rw [h.one k h0 (by omega)]
      simp [ord_all h (show k < L.length by omega)]
    rw [misF, this]
    exact misF_all h f (k + 1) (by omega) (by omega)
theorem shE_of {L : List Nd} (hR : Rgt L) (hT : Tr (shp L) L.length) : shE L = 0 := by
  have h0 := hR.1
  unfold shE
  rw [if_neg (by omega), badF_all hR.2 _ _ (by omega)]
  show (if misF L (L.length - 1) 1 = 0 then (0 : Int) else 70) = 0
  rw [if_pos (misF_all hT _ _ (by omega) (by omega))]
theorem spl_rn {L : List Nd} (h : shE L = 0) {n : Nd} (hs : spl n L.length = true) : spl (rcN (anF L.length (ord (shp L) L.length)) n) L.length = true := by
  have hI := cno_iso h
  have h0 := (shE_rgt h).1
  have hp : ∀ x : Int, 1 ≤ x → x < (L.length : Int) → 1 ≤ ((phi L x.toNat : Nat) : Int) ∧ ((phi L x.toNat : Nat) : Int) < (L.length : Int) := by
    intro x h1 h2
    have h3 : x.toNat < L.length := by omega
    have h4 := hI.lt _ h3
    have h5 : phi L x.toNat ≠ 0 := by
      intro e
      have := hI.inj _ 0 h3 h0 (e.trans hI.z.symm)
      omega
    omega
  simp only [spl, decide_eq_true_eq] at hs ⊢
  obtain ⟨a, b, c, d, e, f⟩ := hs
  exact ⟨a, b, c, d, hp n.lf e.1 e.2, hp n.rt f.1 f.2⟩
theorem cno_rgt {L : List Nd} (h : shE L = 0) : Rgt (cnoL L) := by
  have hR := shE_rgt h
  refine ⟨by rw [cno_len h]; exact hR.1, fun j hj => ?_⟩
  rw [cno_len h] at hj ⊢
  obtain ⟨i, hi, rfl⟩ := (cno_iso h).sur j hj
  rw [cno_get h hi]
  have hr := hR.2 i hi
  by_cases hk : (L.getD i nd0).kd = 1
  · rw [rcN_leaf h hi hk]; exact hr
  · have hs := fun (n : Nd) => spl_rn h (n := n)
    generalize L.getD i nd0 = n at *
    have e1 : (rcN (anF L.length (ord (shp L) L.length)) n).kd = n.kd := rfl
    have e2 : (rcN (anF L.length (ord (shp L) L.length)) n).th = n.th := rfl
    have e3 : (rcN (anF L.length (ord (shp L) L.length)) n).cs = n.cs := rfl
    unfold rightB at hr ⊢
    rw [e1, e2, e3]
    rw [if_neg hk] at hr ⊢
    split
    · rename_i h2
      rw [if_pos h2] at hr
      simp only [Bool.and_eq_true] at hr ⊢
      exact ⟨⟨hs n hr.1.1, hr.1.2⟩, hr.2⟩
    · rename_i h2
      rw [if_neg h2] at hr
      split
      · rename_i h3
        rw [if_pos h3] at hr
        simp only [Bool.and_eq_true] at hr ⊢
        exact ⟨⟨hs n hr.1.1, hr.1.2⟩, hr.2⟩
      · rename_i h3
        rw [if_neg h3] at hr
        exact hr
/-- Numbered anew it is a right tree. -/
theorem cno_shE {L : List Nd} (h : shE L = 0) : shE (cnoL L) = 0 := by
  refine shE_of (cno_rgt h) ?_
  rw [cno_len h]
  exact (cno_iso h).tr (shE_tr h)
end Go.Proofs.YtinjikoocegooaaGreatDoor
