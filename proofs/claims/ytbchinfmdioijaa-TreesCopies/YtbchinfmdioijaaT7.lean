import Derived.Test.YtbchinfmdioijaaT6
set_option linter.unusedVariables false
set_option linter.unusedSimpArgs false
namespace Go.Proofs.Ytbchinfmdioijaa
open Go.RowKit Go.Shelf
attribute [local go_sem] Oper.semAt_some
/-- What is reached, as an iterator. -/
theorem reach_seq (n : Nat) (hn : 1 ≤ n) (Bs n0 : Nat) (a : Option Addr) (cap : Nat) (L : List Nd) (hLn : L.length ≤ 2199023255552) (hR : Rgt L) (w : World) (hBs : w.cell? ⟨Bs, 0, none⟩ = some (.slice a L.length cap)) (hBn : n0 ≤ Bs) (hnW : n0 ≤ w.heap.size) (hrd : RdB n0 w a L) :
    SeqT n Try.prog 79 #[.pointer (some ⟨Bs, 0, none⟩)] (fun x : Fin L.length => #[Value.int .i64 ((x.val : Nat) : Int)]) n0 (fun g => g = Bs) (fun xs => nums xs = ord (shp L) L.length) (fun pre => nums pre <+: ord (shp L) L.length) L.length w := by
  intro y J Jx W hW hJ1 hY h0
  have hBl : Bs < w.heap.size := World.block_lt_of_cell? w _ hBs
  refine (reach_in n hn y Bs n0 a cap L hLn hR J Jx hJ1 hY W ((Below.cell hW hBl).trans hBs) hBn (by have := hW.size; omega) (hrd.same (fun g hg => hW.block g (by omega))) h0).mono ?_
  rintro e W' ⟨he, h | ⟨pre, hp, h⟩⟩
  · exact ⟨he, .inl h⟩
  · exact ⟨he, .inr ⟨pre, hp, h⟩⟩
set_option maxHeartbeats 1000000 in
theorem reached_in (n : Nat) (a : Option Addr) (len cap : Nat) (w : World) :
    CallsIn Fence.wide n Try.prog 51 #[.slice a len cap] w fun e w' => e = .returned (.func (.func 79) #[] #[.pointer (some ⟨w.heap.size, 0, none⟩)]) ∧ w' = w.alloc (.cells #[.slice a len cap] 22) := by
  refine callsIn_of_wp Try.func51 rfl trivial ?_ rfl
  simp only [Try.ntmps51, List.size_toArray, List.length_cons, List.length_nil, Nat.reduceAdd, Nat.reduceSub, Array.replicate_succ, Array.replicate_zero, List.push_toArray, List.append_toArray, List.nil_append, List.cons_append]
  gi_wp2
  go_ret
  exact ⟨rfl, rfl⟩
def RowI (w : World) (g : Nat) (l : List Nat) : Prop := w.heap[g]? = some (.cells (UI l).toArray 3 (0, 0))
theorem RowI.lt {w : World} {g : Nat} {l : List Nat} (h : RowI w g l) : g < w.heap.size := (Array.getElem?_eq_some_iff.1 h).1
theorem RowI.cell {w : World} {g : Nat} {l : List Nat} (h : RowI w g l) (j : Nat) (hj : j < l.length) : w.cell? ⟨g, j, none⟩ = some (.int .i64 (l.getD j 0 : Nat)) := by
  rw [cell_of_row w g j _ 3 (0, 0) h]; simpa using UI_get l j hj
theorem RowI.frozen {w : World} {g : Nat} {l : List Nat} (h : RowI w g l) (j : Nat) : w.frozen? ⟨g, j, none⟩ = false := frozen_of_row w g j _ 3 h
theorem RowI.set {w : World} {g : Nat} {l : List Nat} (h : RowI w g l) (j : Nat) (x : Nat) : RowI (w.setCell ⟨g, j, none⟩ (.int .i64 (x : Nat))) g (l.set j x) := by
  have := heap_setCell_same w g j _ 3 (.int .i64 (x : Nat)) h
  unfold RowI
  rw [this]
  simp [UI, List.map_set]
/-- make([]int, n). -/
theorem wpListIn_makeI {F : Fence} {m : Nat} (w : World) {ops : Array Oper} {rest : List Oper} {o : Oper} {a : Act} {Q : Exit → Act → World → Prop} (hg : o.guard = none) (l c : Operand) (hop : o.op = Op.makeSlice 29 l c) (kl kc : IntKind) (X C : Int) (n : Nat) (hl : a.eval l = .int kl X) (hc : a.eval c = .int kc C) (hL : X = (n : Int)) (hC : C = (n : Int)) (hn : n ≤ 17592186044416)
    (hK : wpListIn F m Try.prog ops Q rest (a.put o.dst (.slice (some ⟨w.heap.size, 0, none⟩) n n)) (w.alloc (.cells (UI (List.replicate n 0)).toArray 3))) :
    wpListIn F m Try.prog ops Q (o :: rest) a w := by
  refine wpListIn_plain hg fun K hK' => ?_
  obtain ⟨i, hi, hz0, hz1, hz2⟩ := info_parts i3
  have hr := run_make (P := Try.prog) w 29 3 i _ Try.underlying29 hi hz0 kl kc n n (by omega) (by omega) (by rw [hz2]; omega) (by omega)
  subst hL
  subst hC
  rw [hz1] at hr
  simp only [Int.toNat_natCast, Nat.mul_one, made3] at hr
  unfold Oper.wpIn
  refine ⟨?_, ?_⟩
  · simp [Oper.about, hop]
  · rw [Oper.semAt_plain F _ _ (by rw [hop]; intro c hc'; cases hc')]
    simp [execOp, hop, hl, hc, hr, Result.andThen]
    exact hK' _ _ hK
/-- How often each stands below one of the first k. -/
def cnts (L : List Nd) (k : Nat) : List Nat := (List.range L.length).map fun j => cnt (shp L) j k
theorem cnts_len (L : List Nd) (k : Nat) : (cnts L k).length = L.length := by simp [cnts]
theorem cnts_get {L : List Nd} {k j : Nat} (h : j < L.length) : (cnts L k).getD j 0 = cnt (shp L) j k := by simp [cnts, List.getD, h]
theorem cnts_zero (L : List Nd) : cnts L 0 = List.replicate L.length 0 := by
  apply List.ext_getElem
  · simp [cnts]
  · intro i h1 h2; simp [cnts, cnt]
theorem cnts_leaf {L : List Nd} {k : Nat} (h : (shp L).K k = false) : cnts L (k + 1) = cnts L k := by
  simp [cnts, cnt, h]
theorem cnts_inner {L : List Nd} {k : Nat} (h : (shp L).K k = true) (ha : (shp L).A k < L.length) (hb : (shp L).B k < L.length) :
    ((cnts L k).set ((shp L).A k) ((cnts L k).getD ((shp L).A k) 0 + 1)).set ((shp L).B k) (((cnts L k).set ((shp L).A k) ((cnts L k).getD ((shp L).A k) 0 + 1)).getD ((shp L).B k) 0 + 1) = cnts L (k + 1) := by
  rw [cnts_get ha]
  apply List.ext_getElem
  · simp [cnts]
  · intro j h1 h2
    have hj : j < L.length := by simpa [cnts] using h2
    simp only [List.getElem_set, List.getD]
    simp only [cnts, List.getElem_map, List.getElem_range, cnt, h, true_and]
    have hbs : (((List.map (fun j => cnt (shp L) j k) (List.range L.length)).set ((shp L).A k) (cnt (shp L) ((shp L).A k) k + 1))[(shp L).B k]?.getD 0) = cnt (shp L) ((shp L).B k) k + (if (shp L).A k = (shp L).B k then 1 else 0) := by
      rw [List.getElem?_set]
      by_cases e : (shp L).A k = (shp L).B k
      · rw [if_pos e, if_pos (by simpa using ha), if_pos e]; simp [e]
      · rw [if_neg e, if_neg e]; simp [hb]
    rw [hbs]
    by_cases e1 : (shp L).B k = j
    · rw [if_pos e1, if_pos e1, e1]
    · rw [if_neg e1, if_neg e1]
      by_cases e2 : (shp L).A k = j
      · rw [if_pos e2, if_pos e2, e2]
      · rw [if_neg e2, if_neg e2]; simp
end Go.Proofs.Ytbchinfmdioijaa
