import Derived.Test.YtodegcobkngmlaaGreatDoorProg
import Derived.Test.YtodegcobkngmlaaGreatDoorYT5
import Derived.Test.YtodegcobkngmlaaGreatDoorYS5
import Derived.Test.YtodegcobkngmlaaGreatDoorYR2
import Derived.Test.YtodegcobkngmlaaGreatDoorYW4
import Derived.Test.YtodegcobkngmlaaGreatDoorYU4
import Derived.Test.YtodegcobkngmlaaGreatDoorYU1
import Derived.Test.YtodegcobkngmlaaGreatDoorYT6
import Derived.Test.YtodegcobkngmlaaGreatDoorYV1
import Derived.Test.YtodegcobkngmlaaGreatDoorYX4
import Derived.WalkKit
import Derived.WalkSpells
import Derived.WalkLawsBesides
import Derived.Deep.Draws
import Derived.Deep.QuietTactic
import Derived.BigQuiet
import Derived.Laws.Externs
import Derived.Laws.CopyOwn
import Derived.RangeFuncBox
import Derived.RangeFuncLeaves
import Derived.RangeFuncCalls
import Derived.RangeFuncRecord
import Derived.Below
import Derived.Shelf.Abstract
import Derived.OwnWalkIn
import Derived.TacticsInMore
import Derived.LoopNIn
import Derived.LoopIn
import Derived.Sort.LoopGhostIn
import Derived.Deep.RegionLaw
import Derived.Deep.RegionWith
import Derived.Deep.RegionHeld3
import Derived.Stop.RegionWithIn
import Derived.RegionTactic
import Derived.Orders
import Derived.OrdersIn
import Derived.RegionIn
import Derived.Test.YtodegcobkngmlaaGreatDoorYS6
import Derived.Laws.StructEq
import Derived.Lib.BufferWrite
import Derived.Lib.UnsafeStr
set_option linter.unusedVariables false
set_option linter.unusedSimpArgs false
namespace Go.Proofs.YtodegcobkngmlaaGreatDoor
theorem ord_nodup {t : Sh} {n : Nat} (ht : In t n) : (ord t n).Nodup := (go_mem ht _ _ _ (Way.start ht) (by simp)).2
theorem ord_len {t : Sh} {n : Nat} (ht : In t n) : (ord t n).length ≤ n := nodup_len (ord_nodup ht) (ord_lt ht)
end Go.Proofs.YtodegcobkngmlaaGreatDoor
set_option linter.unusedVariables false
set_option linter.unusedSimpArgs false
namespace Go.Proofs.YtodegcobkngmlaaGreatDoor
open Go.RowKit Go.Shelf
/-- append(l, tree). -/
theorem wpList_appT (B : Nat) (w : World) {ops : Array Oper} {rest : List Oper} {o : Oper} {a : Act} {Q : Exit → Act → World → Prop} (hgd : o.guard = none) (s x : Operand)
    (hop : o.op = .call { callee := .builtin .append, args := #[s, x], argTypes := #[24, 24] }) (l : List (Int × Option Addr × Nat × Nat)) (y : Int × Option Addr × Nat × Nat) (v : Value) (hs : a.eval s = v) (hown : OwnT B w v l) (hB : B ≤ w.heap.size) (ad : Addr) (c : Nat) (hx : a.eval x = .slice (some ad) 1 c)
    (hnews : ∀ j u, (UT [y])[j]? = some u → w.cell? (ad.add j) = some u) (hlen : l.length + 1 ≤ 4398046511104)
    (hK : ∀ v' w', OwnT B w' v' (l ++ [y]) → w.grownBy w' v.ownBlock → (v'.ownBlock = v.ownBlock ∨ v'.ownBlock = some w.heap.size) → wpList Tryz.prog ops Q rest (a.put o.dst v') w') :
    wpList Tryz.prog ops Q (o :: rest) a w := by
  refine wpList_plain hgd fun K hK' => ?_
  obtain ⟨v', w', hrun, r1, r2, r3⟩ := appT_sep B w o.type v l y hown hB ad c hnews hlen
  unfold Oper.wp
  simp [execOp, hop, resolve, invoke, builtin, hs, hx, hrun, Result.andThen]
  exact hK' _ _ (hK v' w' r1 r2 r3)
end Go.Proofs.YtodegcobkngmlaaGreatDoor
set_option linter.unusedVariables false
set_option linter.unusedSimpArgs false
namespace Go.Proofs.YtodegcobkngmlaaGreatDoor
open Go.RowKit Go.Shelf
theorem ord_full {L : List Nd} (h : shE L = 0) : (ord (shp L) L.length).length = L.length := by
  have ht := shE_tr h
  have h1 := ord_len ht.wi
  have h2 := List.Nodup.length_le_of_subset (l₁ := List.range L.length) (l₂ := ord (shp L) L.length) List.nodup_range (fun i hi => ord_all ht (List.mem_range.1 hi))
  rw [List.length_range] at h2
  omega
theorem zip_other : ∀ (l : List Nat) (s : Nat) (a : List Nat) (x : Nat), x ∉ l → ((l.zipIdx s).foldl (fun a y => a.set y.1 y.2) a).getD x 0 = a.getD x 0
  | [], s, a, x, _ => rfl
  | y :: l, s, a, x, h => by
    rw [List.zipIdx_cons, List.foldl_cons, zip_other l (s + 1) _ x (fun e => h (List.mem_cons_of_mem _ e))]
    have hne : y ≠ x := fun e => h (e ▸ List.mem_cons_self ..)
    simp [List.getD, List.getElem?_set, hne]
theorem zip_at : ∀ (l : List Nat) (s : Nat) (a : List Nat) (j : Nat), l.Nodup → (hj : j < l.length) → l[j] < a.length → ((l.zipIdx s).foldl (fun a y => a.set y.1 y.2) a).getD l[j] 0 = s + j
  | [], s, a, j, _, hj, _ => by simp at hj
  | y :: l, s, a, 0, hn, _, hl => by
    rw [List.zipIdx_cons, List.foldl_cons]
    simp only [List.getElem_cons_zero] at hl ⊢
    rw [zip_other l (s + 1) _ y (List.nodup_cons.1 hn).1]
    simp [List.getD, hl]
  | y :: l, s, a, j + 1, hn, hj, hl => by
    rw [List.zipIdx_cons, List.foldl_cons]
    simp only [List.getElem_cons_succ] at hl ⊢
    rw [zip_at l (s + 1) _ j (List.nodup_cons.1 hn).2 (by simpa using hj) (by simpa using hl)]
    omega
theorem ord_head (t : Sh) (n : Nat) : ∃ q, ord t n = 0 :: q := by
  have h : [0] <+: ord t n := by
    unfold ord
    rw [show 3 * n + 1 = (3 * n) + 1 from rfl, go]
    simp only [List.not_mem_nil, if_false, List.nil_append]
    exact go_pre t _ _ _
  obtain ⟨q, hq⟩ := h
  exact ⟨q, by rw [← hq]; rfl⟩
end Go.Proofs.YtodegcobkngmlaaGreatDoor
set_option linter.unusedVariables false
set_option linter.unusedSimpArgs false
namespace Go.Proofs.YtodegcobkngmlaaGreatDoor
/-- Numbered anew by f: the same shape. -/
structure Iso (t u : Sh) (n : Nat) (f : Nat → Nat) : Prop where
  z : f 0 = 0
  lt : ∀ i, i < n → f i < n
  inj : ∀ i j, i < n → j < n → f i = f j → i = j
  sur : ∀ j, j < n → ∃ i, i < n ∧ f i = j
  k : ∀ i, i < n → u.K (f i) = t.K i
  a : ∀ i, i < n → t.K i = true → u.A (f i) = f (t.A i)
  b : ∀ i, i < n → t.K i = true → u.B (f i) = f (t.B i)
theorem Iso.rch {t u : Sh} {n i : Nat} {f : Nat → Nat} (h : Iso t u n f) (ht : In t n) (r : Rch t i) : Rch u (f i) := by
  induction r with
  | zero => rw [h.z]; exact .zero
  | left r hk ih =>
    have hi := r.lt ht
    rw [← h.a _ hi hk]
    exact .left ih ((h.k _ hi).trans hk)
  | right r hk ih =>
    have hi := r.lt ht
    rw [← h.b _ hi hk]
    exact .right ih ((h.k _ hi).trans hk)
def one (t : Sh) (j i : Nat) : Nat := (if t.K i = true ∧ t.A i = j then 1 else 0) + (if t.K i = true ∧ t.B i = j then 1 else 0)
theorem cnt_sum (t : Sh) (j : Nat) : ∀ m, cnt t j m = ((List.range m).map (one t j)).sum
  | 0 => rfl
  | m + 1 => by
    rw [cnt, cnt_sum t j m, List.range_succ, List.map_append, List.sum_append]
    simp [one, Nat.add_assoc]
theorem perm_sum {l r : List Nat} (h : l.Perm r) : l.sum = r.sum := by
  induction h with
  | nil => rfl
  | cons x _ ih => simp [ih]
  | swap x y l => simp; omega
  | trans _ _ h1 h2 => exact h1.trans h2
theorem nodup_map {f : Nat → Nat} {n : Nat} (hf : ∀ i j, i < n → j < n → f i = f j → i = j) : ∀ {l : List Nat}, (∀ i ∈ l, i < n) → l.Nodup → (l.map f).Nodup
  | [], _, _ => by simp
  | x :: l, hl, hn => by
    rw [List.nodup_cons] at hn
    rw [List.map_cons, List.nodup_cons]
    refine ⟨fun e => ?_, nodup_map hf (fun i hi => hl i (List.mem_cons_of_mem _ hi)) hn.2⟩
    obtain ⟨j, hj, e⟩ := List.mem_map.1 e
    exact hn.1 (hf j x (hl j (List.mem_cons_of_mem _ hj)) (hl x (List.mem_cons_self ..)) e ▸ hj)
theorem Iso.perm {t u : Sh} {n : Nat} {f : Nat → Nat} (h : Iso t u n f) : ((List.range n).map f).Perm (List.range n) := by
  rw [List.perm_ext_iff_of_nodup (nodup_map h.inj (fun i hi => List.mem_range.1 hi) List.nodup_range) List.nodup_range]
  intro j
  rw [List.mem_map, List.mem_range]
  constructor
  · rintro ⟨i, hi, rfl⟩; exact h.lt i (List.mem_range.1 hi)
  · intro hj
    obtain ⟨i, hi, e⟩ := h.sur j hj
    exact ⟨i, List.mem_range.2 hi, e⟩
theorem Iso.one {t u : Sh} {n : Nat} {f : Nat → Nat} (h : Iso t u n f) (ht : In t n) {i j : Nat} (hi : i < n) (hj : j < n) : one u (f j) (f i) = one t j i := by
  unfold Go.Proofs.YtodegcobkngmlaaGreatDoor.one
  rw [h.k i hi]
  cases hk : t.K i with
  | false => simp
  | true =>
    rw [h.a i hi hk, h.b i hi hk]
    have hl := ht.2 i hi hk
    have e1 : (f (t.A i) = f j) = (t.A i = j) := propext ⟨fun e => h.inj _ _ hl.1 hj e, fun e => by rw [e]⟩
    have e2 : (f (t.B i) = f j) = (t.B i = j) := propext ⟨fun e => h.inj _ _ hl.2 hj e, fun e => by rw [e]⟩
    simp only [e1, e2]
theorem Iso.cnt {t u : Sh} {n : Nat} {f : Nat → Nat} (h : Iso t u n f) (ht : In t n) {j : Nat} (hj : j < n) : cnt u (f j) n = cnt t j n := by
  rw [cnt_sum, cnt_sum, ← perm_sum (h.perm.map (Go.Proofs.YtodegcobkngmlaaGreatDoor.one u (f j))), List.map_map]
  congr 1
  apply List.map_congr_left
  intro i hi
  exact h.one ht (List.mem_range.1 hi) hj
theorem Iso.inn {t u : Sh} {n : Nat} {f : Nat → Nat} (h : Iso t u n f) (ht : In t n) : In u n := by
  refine ⟨ht.1, fun j hj hk => ?_⟩
  obtain ⟨i, hi, rfl⟩ := h.sur j hj
  have hk' : t.K i = true := (h.k i hi).symm.trans hk
  rw [h.a i hi hk', h.b i hi hk']
  exact ⟨h.lt _ (ht.2 i hi hk').1, h.lt _ (ht.2 i hi hk').2⟩
theorem Iso.tr {t u : Sh} {n : Nat} {f : Nat → Nat} (h : Iso t u n f) (ht : Tr t n) : Tr u n := by
  refine ⟨h.inn ht.wi, fun j hj hk => ?_, fun j h0 hj => ?_, fun j hj => ?_⟩
  · obtain ⟨i, hi, rfl⟩ := h.sur j hj
    have hk' : t.K i = true := (h.k i hi).symm.trans hk
    rw [h.a i hi hk', h.b i hi hk']
    have hz := ht.z i hi hk'
    have hl := ht.wi.2 i hi hk'
    exact ⟨fun e => hz.1 (h.inj _ _ hl.1 ht.wi.1 (e.trans h.z.symm)), fun e => hz.2 (h.inj _ _ hl.2 ht.wi.1 (e.trans h.z.symm))⟩
  · obtain ⟨i, hi, rfl⟩ := h.sur j hj
    rw [h.cnt ht.wi hi]
    exact ht.one i (by
      rcases Nat.eq_zero_or_pos i with e | e
      · rw [e, h.z] at h0; exact absurd h0 (Nat.lt_irrefl _)
      · exact e) hi
  · obtain ⟨i, hi, rfl⟩ := h.sur j hj
    exact h.rch ht.wi (ht.re i hi)
end Go.Proofs.YtodegcobkngmlaaGreatDoor
set_option linter.unusedVariables false
set_option linter.unusedSimpArgs false
namespace Go.Proofs.YtodegcobkngmlaaGreatDoor
open Go.RowKit Go.Shelf
theorem badF_all {L : List Nd} (h : ∀ i, i < L.length → rightB (L.getD i nd0) L.length = true) : ∀ (f k : Nat), k + f ≤ L.length → badF L f k = none
  | 0, k, _ => rfl
  | f + 1, k, hk => by
    rw [badF, if_pos (h k (by omega))]
    exact badF_all h f (k + 1) (by omega)
theorem misF_all {L : List Nd} (h : Tr (shp L) L.length) : ∀ (f k : Nat), 0 < k → k + f ≤ L.length → misF L f k = 0
  | 0, k, _, _ => rfl
  | f + 1, k, h0, hk => by
    have : misB L k = false := by
      unfold misB
      rw [h.one k h0 (by omega)]
      simp [ord_all h (show k < L.length by omega)]
    rw [misF, this]
    exact misF_all h f (k + 1) (by omega) (by omega)
theorem shE_of {L : List Nd} (hR : Rgt L) (hT : Tr (shp L) L.length) : shE L = 0 := by
  have h0 := hR.1
  unfold shE
  rw [if_neg (by omega), badF_all hR.2 _ _ (by omega)]
  show (if misF L (L.length - 1) 1 = 0 then (0 : Int) else 70) = 0
  rw [if_pos (misF_all hT _ _ (by omega) (by omega))]
end Go.Proofs.YtodegcobkngmlaaGreatDoor
