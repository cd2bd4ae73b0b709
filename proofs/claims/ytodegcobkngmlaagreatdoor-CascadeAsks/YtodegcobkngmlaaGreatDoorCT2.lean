import Derived.Test.YtodegcobkngmlaaGreatDoorProg
import Derived.Test.YtodegcobkngmlaaGreatDoorCS8
import Derived.Test.YtodegcobkngmlaaGreatDoorYRM
import Derived.Test.YtodegcobkngmlaaGreatDoorYW4
import Derived.WalkKit
import Derived.WalkSpells
import Derived.WalkLawsBesides
import Derived.Deep.Draws
import Derived.Deep.QuietTactic
import Derived.BigQuiet
import Derived.Laws.Externs
import Derived.Laws.CopyOwn
import Derived.Shelf.Abstract
import Derived.Deep.RegionLaw
import Derived.BigRegion
import Derived.Deep.RegionHeld3
import Derived.RangeFuncBox
import Derived.RangeFuncLeaves
import Derived.RangeFuncCalls
import Derived.RangeFuncRecord
import Derived.Below
import Derived.OwnWalkIn
import Derived.TacticsInMore
import Derived.LoopNIn
import Derived.LoopIn
import Derived.Sort.LoopGhostIn
import Derived.Deep.RegionWith
import Derived.Stop.RegionWithIn
import Derived.Laws.MathBits
import Derived.Maps.OwnSet
import Derived.StringKeys
import Derived.RegionTactic
import Derived.Orders
import Derived.OrdersIn
import Derived.RegionIn
import Ieee.Arith
import Derived.Laws.StructEq
import Derived.Lib.BufferWrite
import Derived.Lib.UnsafeStr
import Derived.Laws.MakeOwn
import Derived.Deep.CutBlock
import Derived.Deep.CutRange
import Derived.WalkMore
import Derived.Test.YtodegcobkngmlaaGreatDoorYS5
set_option linter.unusedVariables false
set_option linter.unusedSimpArgs false
namespace Go.Proofs.YtodegcobkngmlaaGreatDoor
open Go.RowKit Go.Shelf
set_option maxHeartbeats 1000000 in
/-- What lies behind the trees, one by one: an iterator with two cells of its own, the ensemble's and the vector's. -/
theorem behind_in (n : Nat) (E : Array Value) (ax : Option Addr) (m cx : Nat) (w : World) :
    CallsIn Fence.wide n Tryz.prog 11 #[.agg E, .slice ax m cx] w fun e w' => e = .returned (.func (.func 19) #[] #[.pointer (some ⟨w.heap.size, 0, none⟩), .pointer (some ⟨w.heap.size + 1, 0, none⟩)]) ∧ w' = (w.alloc (.cells E 26)).alloc (.cells #[.slice ax m cx] 27) := by
  refine callsIn_of_wp Tryz.func11 rfl trivial ?_ rfl
  simp only [Tryz.ntmps11, List.size_toArray, List.length_cons, List.length_nil, Nat.reduceAdd, Nat.reduceSub, Array.replicate_succ, Array.replicate_zero, List.push_toArray, List.append_toArray, List.nil_append, List.cons_append]
  gi_wp2
  go_ret
  exact ⟨rfl, rfl⟩
end Go.Proofs.YtodegcobkngmlaaGreatDoor
set_option linter.unusedVariables false
set_option linter.unusedSimpArgs false
namespace Go.Proofs.YtodegcobkngmlaaGreatDoor
open Go.RowKit Go.Shelf
theorem boS_zero (lo : Bool) (v : List Nd → Int) (o : Int) : ∀ ts, boS lo v o 0 ts = boS lo v0 o 0 ts
  | [] => rfl
  | t :: ts => by rw [boS, boS, boS_zero lo v o ts]
/-- The spans when the first k trees have been asked. -/
def beL (base : List Int) (ts : List (Int × List Nd)) (v : List Nd → Int) (k : Nat) : List (Int × Int) := (List.range base.length).map fun o => (base.getD o 0 + boS true v (o : Int) k ts, base.getD o 0 + boS false v (o : Int) k ts)
theorem beL_len (base : List Int) (ts : List (Int × List Nd)) (v : List Nd → Int) (k : Nat) : (beL base ts v k).length = base.length := by simp [beL]
theorem beL_at (base : List Int) (ts : List (Int × List Nd)) (v : List Nd → Int) (k o : Nat) (h : o < base.length) : (beL base ts v k).getD o (0, 0) = (base.getD o 0 + boS true v (o : Int) k ts, base.getD o 0 + boS false v (o : Int) k ts) := by simp [beL, List.getD, h]
theorem beL_zero (base : List Int) (ts : List (Int × List Nd)) (v : List Nd → Int) : ahL base ts ts.length = beL base ts v 0 := by
  unfold ahL beL
  rw [List.take_length]
  apply List.map_congr_left
  intro o _
  rw [boS_zero true v, boS_zero false v]
theorem beL_next (base : List Int) (ts : List (Int × List Nd)) (v : List Nd → Int) (k q : Nat) (hk : k < ts.length) (hq : (ts.getD k (0, [])).1 = (q : Int)) (hl : q < base.length) :
    (beL base ts v k).set q (((beL base ts v k).getD q (0, 0)).1 - (sp (ts.getD k (0, [])).2).1 + v (ts.getD k (0, [])).2, ((beL base ts v k).getD q (0, 0)).2 - (sp (ts.getD k (0, [])).2).2 + v (ts.getD k (0, [])).2) = beL base ts v (k + 1) := by
  apply List.ext_getElem?
  intro o
  by_cases ho : o < base.length
  · rw [beL_at base ts v k q hl]
    have e : (beL base ts v (k + 1))[o]? = some ((beL base ts v (k + 1)).getD o (0, 0)) := by
      have : o < (beL base ts v (k + 1)).length := by rw [beL_len]; exact ho
      simp [List.getD, this]
    have e' : (beL base ts v k)[o]? = some ((beL base ts v k).getD o (0, 0)) := by
      have : o < (beL base ts v k).length := by rw [beL_len]; exact ho
      simp [List.getD, this]
    rw [e, beL_at base ts v (k + 1) o ho, boS_step true v _ ts k hk, boS_step false v _ ts k hk, hq]
    by_cases hoq : o = q
    · subst hoq
      rw [List.getElem?_set_self (by rw [beL_len]; exact ho), if_pos rfl, if_pos rfl]
      simp only [if_true, Bool.false_eq_true, if_false]
      congr 2 <;> omega
    · rw [List.getElem?_set_ne (fun h => hoq h.symm), e', beL_at base ts v k o ho, if_neg (by omega), if_neg (by omega)]
      simp
  · rw [List.getElem?_eq_none (by rw [List.length_set, beL_len]; omega), List.getElem?_eq_none (by rw [beL_len]; omega)]
/-- No sum on the way wraps. -/
theorem beL_fit {base : List Int} {ts : List (Int × List Nd)} {v : List Nd → Int} (hv : ∀ t ∈ ts, (v t.2).natAbs ≤ lg t.2) (k o : Nat) (h : o < base.length) (hr : rm base ts o < 4611686018427387904) : ((beL base ts v k).getD o (0, 0)).1.natAbs < 4611686018427387904 ∧ ((beL base ts v k).getD o (0, 0)).2.natAbs < 4611686018427387904 := by
  rw [beL_at base ts v k o h]
  rw [rm_sum] at hr
  have h1 := boS_abs true v (o : Int) ts k hv
  have h2 := boS_abs false v (o : Int) ts k hv
  simp only
  omega
end Go.Proofs.YtodegcobkngmlaaGreatDoor
set_option linter.unusedVariables false
set_option linter.unusedSimpArgs false
namespace Go.Proofs.YtodegcobkngmlaaGreatDoor
open Go.RowKit Go.Shelf
theorem VB_append : ∀ (l : List (Int × Int)) (r : Int × Int), VB (l ++ [r]) = VB l ++ VB [r]
  | [], r => rfl
  | x :: l, r => by simp only [List.cons_append, VB, VB_append l r]
theorem VB_one : ∀ l, ∀ u ∈ VB l, u.oneCell' = true
  | [], u, h => by simp [VB] at h
  | r :: l, u, h => by
    simp only [VB, List.mem_cons] at h
    rcases h with rfl | rfl | h
    · rfl
    · rfl
    · exact VB_one l u h
/-- Bounds in a row of one's own. -/
def OwnV (B : Nat) (w : World) (v : Value) (l : List (Int × Int)) : Prop := w.ownsRow B 42 2 v l.length (VB l)
theorem OwnV.nil (B : Nat) (w : World) : OwnV B w (.slice none 0 0) [] := ⟨rfl, .inl ⟨rfl, rfl⟩⟩
theorem OwnV.same {B : Nat} {w w' : World} {v : Value} {l : List (Int × Int)} (h : OwnV B w v l) (k : ∀ b, v.ownBlock = some b → w'.heap[b]? = w.heap[b]?) : OwnV B w' v l := by
  refine ⟨h.1, ?_⟩
  rcases h.2 with h2 | ⟨g, cap, cur, hv, hg, hh, r⟩
  · exact .inl h2
  · exact .inr ⟨g, cap, cur, hv, hg, (k g (by rw [hv]; rfl)).trans hh, r⟩
theorem OwnV.block {B : Nat} {w : World} {v : Value} {l : List (Int × Int)} (h : OwnV B w v l) {b : Nat} (hb : v.ownBlock = some b) : B ≤ b ∧ ∃ cur, w.heap[b]? = some (.cells cur 42 (0, 0)) := by
  rcases h.2 with ⟨h1, h2⟩ | ⟨g, cap, cur, hv, hg, hh, r⟩
  · rw [h1] at hb; cases hb
  · rw [hv] at hb
    simp only [Value.ownBlock, Option.some.injEq] at hb
    subst hb
    exact ⟨hg, cur, hh⟩
theorem OwnV.keep {B : Nat} {w w' : World} {v : Value} {l : List (Int × Int)} (h : OwnV B w v l) (k : Keep w w') : OwnV B w' v l :=
  h.same (fun b hb => by obtain ⟨_, cur, hh⟩ := h.block hb; exact k.block b (Array.getElem?_eq_some_iff.1 hh).1)
theorem OwnV.mono {B B' : Nat} {w : World} {v : Value} {l : List (Int × Int)} (h : OwnV B w v l) (hB : B' ≤ B) : OwnV B' w v l := by
  refine ⟨h.1, ?_⟩
  rcases h.2 with h2 | ⟨g, cap, cur, hv, hg, r⟩
  · exact .inl h2
  · exact .inr ⟨g, cap, cur, hv, by omega, r⟩
theorem OwnV.shape {B : Nat} {w : World} {v : Value} {l : List (Int × Int)} (h : OwnV B w v l) (hl : 1 ≤ l.length) : ∃ g c, v = .slice (some ⟨g, 0, none⟩) l.length c ∧ B ≤ g ∧ ∀ o lo hi, o < l.length → l.getD o (0, 0) = (lo, hi) → w.cell? ⟨g, o * 2, none⟩ = some (.int .i64 lo) ∧ w.cell? ⟨g, o * 2 + 1, none⟩ = some (.int .i64 hi) := by
  rcases h.2 with ⟨h1, h2⟩ | ⟨g, cap, cur, hv, hg, hh, h1, h2, h3, h4⟩
  · omega
  · refine ⟨g, cap, hv, hg, ?_⟩
    intro o lo hi ho hlh
    have e : ∀ i, i < l.length * 2 → cur[i]? = (VB l)[i]? := by
      intro i hi
      rw [← h4, List.getElem?_take, if_pos hi]
      simp
    constructor
    · rw [cell_of_row w g _ cur 42 (0, 0) hh, e _ (by omega), VB_lo l o ho, hlh]
    · rw [cell_of_row w g _ cur 42 (0, 0) hh, e _ (by omega), VB_hi l o ho, hlh]
theorem OwnV.set {B : Nat} {w : World} {g c : Nat} {l : List (Int × Int)} (h : OwnV B w (.slice (some ⟨g, 0, none⟩) l.length c) l) (j : Nat) (hj : j < l.length) (x y : Int) :
    OwnV B ((w.setCell ⟨g, j * 2, none⟩ (.int .i64 x)).setCell ⟨g, j * 2 + 1, none⟩ (.int .i64 y)) (.slice (some ⟨g, 0, none⟩) l.length c) (l.set j (x, y)) ∧ w.frozen? ⟨g, j * 2, none⟩ = false ∧ w.frozen? ⟨g, j * 2 + 1, none⟩ = false := by
  rcases h.2 with ⟨h1, h2⟩ | ⟨g', cap, cur, hv, hg, hh, h1, h2, h3, h4⟩
  · cases h1
  · simp only [Value.slice.injEq, Option.some.injEq, Addr.mk.injEq, and_true, true_and] at hv
    obtain ⟨rfl, rfl⟩ := hv
    have a0 := heap_setCell_same w g (j * 2) _ 42 (.int .i64 x) hh
    have a1 := heap_setCell_same _ g (j * 2 + 1) _ 42 (.int .i64 y) a0
    refine ⟨⟨by rw [VB_len], .inr ⟨g, c, _, by rw [List.length_set], hg, a1, by rw [List.length_set]; exact h1, h2, by simpa using h3, ?_⟩⟩, frozen_of_row _ _ _ _ 42 hh, frozen_of_row _ _ _ _ 42 hh⟩
    rw [← VB_set l j x y hj, ← h4, List.length_set]
    simp only [Array.toList_setIfInBounds, List.take_set]
theorem i42 : (Tryz.prog.info? 42).map (fun i => (i.zero, i.size, i.bytes)) = some (some (.agg #[.int .i64 0, .int .i64 0]), 2, 16) := by kernel_rfl
/-- append(l, r), in a region that draws. -/
theorem step_appV {B : Nat} {w : World} {ops : Array Oper} {o : Oper} {a : Act} {K : Act → World → Prop} {Q : Exit → Act → World → Prop} {E : Prop} (hgd : o.guard = none) (s x : Operand)
    (ho : o.op = .call { callee := .builtin .append, args := #[s, x], argTypes := #[40, 40] }) (l : List (Int × Int)) (p q : Int) (v : Value) (hown : OwnV B w v l) (hB : B ≤ w.heap.size) (hlen : l.length + 1 ≤ 4398046511104)
    (hs : a.eval s = v) (hx : a.eval x = .slice (some ⟨w.heap.size, 0, none⟩) 1 1)
    (hK : ∀ v' w', OwnV B w' v' (l ++ [(p, q)]) → (w.alloc (.cells #[.int .i64 p, .int .i64 q] 42)).grownBy w' v.ownBlock → K (a.put o.dst v') w') :
    if Region.wanted o (yielded ops a.tmps) = true then Oper.wp Tryz.prog o a (w.alloc (.cells #[.int .i64 p, .int .i64 q] 42)) K Q else E := by
  have hw : Region.wanted o (yielded ops a.tmps) = true := by simp [Region.wanted, hgd]
  rw [if_pos hw]
  obtain ⟨i0, hi, hz0, hz1, hz2⟩ := info_parts i42
  have hown2 : OwnV B (w.alloc (.cells #[.int .i64 p, .int .i64 q] 42)) v l := hown.keep ((Keep.refl w).alloc _)
  have hnews : ∀ j u, (VB [(p, q)])[j]? = some u → (w.alloc (Obj.cells #[Value.int .i64 p, Value.int .i64 q] 42)).cell? ((⟨w.heap.size, 0, none⟩ : Addr).add j) = some u := by
    intro j u hj
    rw [Go.WideShapes.add_plain, Nat.zero_add, cell_of_row _ _ _ _ 42 (0, 0) (heap_alloc_new w _)]
    simpa [VB] using hj
  obtain ⟨v', w', hr, h2, h3, -⟩ := run_append_own (P := Tryz.prog) (w.alloc (.cells #[.int .i64 p, .int .i64 q] 42)) B 40 o.type 42 i0 _ 2 16 Tryz.underlying40 hi hz0 hz1 hz2 rfl (by decide) v _ _ hown2 ⟨w.heap.size, 0, none⟩ 1 1 (VB [(p, q)]) rfl hnews (VB_one _) (by simp only [maxLen]; omega) (by omega) (by rw [World.size_alloc]; omega)
  have hr' : (Builtin.append_ #[40, 40] o.type #[v, .slice (some ⟨w.heap.size, 0, none⟩) 1 1]).run Tryz.prog (w.alloc (.cells #[.int .i64 p, .int .i64 q] 42)) = .ok v' w' := hr
  unfold Oper.wp execOp
  simp only [ho, resolve, invoke, builtin, Sem.run_bind, Sem.run_pure, Result.andThen_ok, List.map_toArray, List.map_cons, List.map_nil, hs, hx, hr']
  refine hK v' w' ?_ h3
  unfold OwnV
  rw [List.length_append, VB_append]
  exact h2
end Go.Proofs.YtodegcobkngmlaaGreatDoor
