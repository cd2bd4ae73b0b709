import Derived.Test.YtinjikoocegooaaGreatDoorProg
import Derived.Test.YtinjikoocegooaaGreatDoorYS5
import Derived.WalkKit
import Derived.WalkSpells
import Derived.WalkLawsBesides
import Derived.Deep.Draws
import Derived.Deep.QuietTactic
import Derived.BigQuiet
import Derived.Laws.Externs
import Derived.Laws.CopyOwn
import Derived.RangeFuncBox
import Derived.RangeFuncLeaves
import Derived.RangeFuncCalls
import Derived.RangeFuncRecord
import Derived.Below
import Derived.Shelf.Abstract
import Derived.OwnWalkIn
import Derived.TacticsInMore
import Derived.LoopNIn
import Derived.LoopIn
import Derived.Sort.LoopGhostIn
import Derived.Deep.RegionLaw
import Derived.Deep.RegionWith
import Derived.Deep.RegionHeld3
import Derived.Stop.RegionWithIn
import Derived.RegionTactic
import Derived.Orders
import Derived.OrdersIn
import Derived.RegionIn
import Derived.Test.YtinjikoocegooaaGreatDoorYR1
import Derived.Test.YtinjikoocegooaaGreatDoorU1
import Derived.Test.YtinjikoocegooaaGreatDoorYX4
import Derived.Test.YtinjikoocegooaaGreatDoorYV1
import Derived.BigRegion
import Derived.Laws.MathBits
import Derived.Maps.OwnSet
import Derived.StringKeys
import Ieee.Arith
import Derived.Laws.StructEq
set_option linter.unusedVariables false
set_option linter.unusedSimpArgs false
namespace Go.Proofs.YtinjikoocegooaaGreatDoor
open Go.RowKit Go.Shelf
theorem boxes3g (w : World) (u v x : Array Value) (t1 t2 t3 : Nat) : ∃ w4, ((w.alloc (Obj.cells u t1)).alloc (Obj.cells v t2)).alloc (Obj.cells x t3) = w4 ∧ Keep w w4 ∧ w4.heap.size = w.heap.size + 3 ∧
    w4.heap[w.heap.size]? = some (Obj.cells u t1 (0, 0)) ∧ w4.heap[w.heap.size + 1]? = some (Obj.cells v t2 (0, 0)) ∧ w4.heap[w.heap.size + 1 + 1]? = some (Obj.cells x t3 (0, 0)) := by
  refine ⟨_, rfl, (((Keep.refl w).alloc _).alloc _).alloc _, by simp, ?_, ?_, ?_⟩
  · exact (Below.heap_alloc _ _ _ (by simp; omega)).trans ((Below.heap_alloc _ _ _ (by simp)).trans (heap_alloc_new w _))
  · have := heap_alloc_new (w.alloc (Obj.cells u t1)) (Obj.cells v t2)
    rw [World.size_alloc] at this
    exact (Below.heap_alloc _ _ _ (by simp)).trans this
  · have := heap_alloc_new ((w.alloc (Obj.cells u t1)).alloc (Obj.cells v t2)) (Obj.cells x t3)
    rw [World.size_alloc, World.size_alloc] at this
    exact this
theorem set_out {w w2 : World} {h : Nat} {cs : Array Value} {i : Nat} {u : Value} {cs0 cs1 : Array Value} (k : Keep w w2) (hw : w.heap.size ≤ h + 2) (r0 : w2.heap[h]? = some (.cells cs0 26 (0, 0))) (r1 : w2.heap[h + 1]? = some (.cells cs1 26 (0, 0))) (r2 : w2.heap[h + 1 + 1]? = some (.cells cs 26 (0, 0))) :
    Keep w (w2.setCell ⟨h + 1 + 1, i, none⟩ u) ∧ (w2.setCell ⟨h + 1 + 1, i, none⟩ u).heap[h]? = some (.cells cs0 26 (0, 0)) ∧ (w2.setCell ⟨h + 1 + 1, i, none⟩ u).heap[h + 1]? = some (.cells cs1 26 (0, 0)) ∧ (w2.setCell ⟨h + 1 + 1, i, none⟩ u).heap[h + 1 + 1]? = some (.cells (cs.set! i u) 26 (0, 0)) :=
  ⟨k.setCell (by simpa using hw) _, (neq_set w2 _ _ _ h (by omega)).trans r0, (neq_set w2 _ _ _ (h + 1) (by omega)).trans r1, by have := heap_setCell_same w2 (h + 1 + 1) i _ 26 u r2; simpa using this⟩
theorem OwnS.same {B : Nat} {w w' : World} {v : Value} {K : List ByteArray} (h : OwnS B w v K) (k : ∀ b, v.ownBlock = some b → w'.heap[b]? = w.heap[b]?) : OwnS B w' v K := by
  refine ⟨h.1, ?_⟩
  rcases h.2 with h2 | ⟨g, cap, cur, hv, hg, hh, r⟩
  · exact .inl h2
  · exact .inr ⟨g, cap, cur, hv, hg, by rw [k g (by rw [hv]; rfl)]; exact hh, r⟩
theorem OwnS.block {B : Nat} {w : World} {v : Value} {K : List ByteArray} (h : OwnS B w v K) {b : Nat} (hb : v.ownBlock = some b) : B ≤ b ∧ ∃ cur, w.heap[b]? = some (.cells cur 9 (0, 0)) := by
  rcases h.2 with ⟨h1, _⟩ | ⟨g, cap, cur, hv, hg, hh, r⟩
  · rw [h1] at hb; cases hb
  · rw [hv] at hb
    have hb : some g = some b := hb
    simp only [Option.some.injEq] at hb
    subst hb
    exact ⟨hg, cur, hh⟩
theorem OwnS.keep {B : Nat} {w w' : World} {v : Value} {K : List ByteArray} (h : OwnS B w v K) (k : Keep w w') : OwnS B w' v K :=
  h.same (fun b hb => by obtain ⟨_, cur, hh⟩ := h.block hb; exact k.block b (Array.getElem?_eq_some_iff.1 hh).1)
/-- What Copy holds between two rounds. -/
structure CIt (ts : List (Int × List Nd)) (W : World) (k : Nat) (v : Value) (wr : World) (K : List (Int × Option Addr × Nat × Nat)) : Prop where
  len : K.length = k
  eq : ∀ j, j < k → (K.getD j tt0).1 = (ts.getD j (0, [])).1 ∧ (K.getD j tt0).2.2.1 = (ts.getD j (0, [])).2.length ∧ (ts.getD j (0, [])).2.length ≤ (K.getD j tt0).2.2.2
  own : OwnT W.heap.size wr v K
  ct : ∀ j, j < k → CT wr (fun b => W.heap.size ≤ b ∧ b < wr.heap.size ∧ v.ownBlock ≠ some b) (K.getD j tt0).2.1 (K.getD j tt0).2.2.2 (ts.getD j (0, [])).2
  kp : Keep W wr
theorem getD_snocT (K : List (Int × Option Addr × Nat × Nat)) (r : Int × Option Addr × Nat × Nat) (j : Nat) : (K ++ [r]).getD j tt0 = if j = K.length then r else K.getD j tt0 := by
  by_cases h : j < K.length
  · rw [if_neg (by omega)]; simp [List.getD, List.getElem?_append, h]
  · by_cases h2 : j = K.length
    · subst h2; simp [List.getD]
    · rw [if_neg h2]; simp [List.getD, List.getElem?_append, h, show ¬ j - K.length = 0 by omega]
theorem newsT (W : World) (out : Int) (a : Option Addr) (n c : Nat) : ∀ j u, (UT [(out, a, n, c)])[j]? = some u → (W.alloc (Obj.cells #[Value.int .i64 out, Value.slice a n c] 48)).cell? ((⟨W.heap.size, 0, none⟩ : Addr).add j) = some u := by
  intro j u hj
  rw [Go.WideShapes.add_plain, Nat.zero_add, cell_of_row _ _ _ _ 48 (0, 0) (heap_alloc_new W _)]
  simpa [UT] using hj
theorem step_appT {B : Nat} {w : World} {ops : Array Oper} {o : Oper} {a : Act} {K : Act → World → Prop} {Q : Exit → Act → World → Prop} {E : Prop} (hgd : o.guard = none) (s x : Operand)
    (ho : o.op = .call { callee := .builtin .append, args := #[s, x], argTypes := #[24, 24] }) (l : List (Int × Option Addr × Nat × Nat)) (out : Int) (an : Option Addr) (n cn : Nat) (v : Value) (hown : OwnT B w v l) (hB : B ≤ w.heap.size) (hlen : l.length + 1 ≤ 4398046511104)
    (hs : a.eval s = v) (hx : a.eval x = .slice (some ⟨w.heap.size, 0, none⟩) 1 1)
    (hK : ∀ v' w', OwnT B w' v' (l ++ [(out, an, n, cn)]) → (w.alloc (.cells #[.int .i64 out, .slice an n cn] 48)).grownBy w' v.ownBlock → (v'.ownBlock = v.ownBlock ∨ v'.ownBlock = some (w.heap.size + 1)) → K (a.put o.dst v') w') :
    if Region.wanted o (yielded ops a.tmps) = true then Oper.wp Tryz.prog o a (w.alloc (.cells #[.int .i64 out, .slice an n cn] 48)) K Q else E := by
  have hw : Region.wanted o (yielded ops a.tmps) = true := by simp [Region.wanted, hgd]
  rw [if_pos hw]
  obtain ⟨v', w', hr, h2, h3, h4⟩ := appT_sep B (w.alloc (.cells #[.int .i64 out, .slice an n cn] 48)) o.type v l (out, an, n, cn) (hown.keep ((Keep.refl w).alloc _)) (by rw [World.size_alloc]; omega) ⟨w.heap.size, 0, none⟩ 1 (newsT w out an n cn) hlen
  unfold Oper.wp execOp
  simp only [ho, resolve, invoke, builtin, Sem.run_bind, Sem.run_pure, Result.andThen_ok, List.map_toArray, List.map_cons, List.map_nil, hs, hx, hr]
  exact hK v' w' h2 h3 (by simpa using h4)
theorem CIt.step {ts : List (Int × List Nd)} {W : World} {k : Nat} {v : Value} {wr : World} {K : List (Int × Option Addr × Nat × Nat)} (hI : CIt ts W k v wr K) {out : Int} {L : List Nd} {an : Option Addr} {cn : Nat} {w6 w7 : World} {v' : Value} {ob : Obj}
    (hT : ts.getD k (0, []) = (out, L)) (kw : Keep wr w6) (hC : CT w6 (fun b => wr.heap.size ≤ b ∧ b < w6.heap.size) an cn L) (hc : L.length ≤ cn) (hO : OwnT W.heap.size w7 v' (K ++ [(out, an, L.length, cn)])) (g7 : (w6.alloc ob).grownBy w7 v.ownBlock) (hv : v'.ownBlock = v.ownBlock ∨ v'.ownBlock = some (w6.heap.size + 1)) :
    CIt ts W (k + 1) v' w7 (K ++ [(out, an, L.length, cn)]) := by
  have hlt : ∀ b, v.ownBlock = some b → W.heap.size ≤ b ∧ b < wr.heap.size := by
    intro b hb
    obtain ⟨h1, cur, hc⟩ := hI.own.block hb
    exact ⟨h1, (Array.getElem?_eq_some_iff.1 hc).1⟩
  have hle := kw.le
  have hle0 := hI.kp.le
  have ka : Keep w6 (w6.alloc ob) := (Keep.refl w6).alloc _
  have hsz := g7.size
  rw [World.size_alloc] at hsz
  have hbl : ∀ b, b < w6.heap.size → v.ownBlock ≠ some b → w7.heap[b]? = w6.heap[b]? := fun b hb hne => (g7.block b (by rw [World.size_alloc]; omega) (fun e => hne e.symm)).trans (ka.block b hb)
  have hne' : ∀ b, b < w6.heap.size → v.ownBlock ≠ some b → v'.ownBlock ≠ some b := by
    intro b hb hne e
    rcases hv with h | h
    · rw [h] at e; exact hne e
    · rw [h] at e; simp only [Option.some.injEq] at e; omega
  refine ⟨by rw [List.length_append, hI.len]; rfl, ?_, hO, ?_, ?_⟩
  · intro j hj
    rw [getD_snocT, hI.len]
    by_cases e : j = k
    · rw [if_pos e, e, hT]; exact ⟨rfl, rfl, hc⟩
    · rw [if_neg e]; exact hI.eq j (by omega)
  · intro j hj
    rw [getD_snocT, hI.len]
    by_cases e : j = k
    · rw [if_pos e, e, hT]
      refine hC.same ?_ ?_
      · rintro b ⟨h1, h2⟩
        exact hbl b h2 (fun e => by have := hlt b e; omega)
      · rintro b ⟨h1, h2⟩
        exact ⟨by omega, by omega, hne' b h2 (fun e => by have := hlt b e; omega)⟩
    · rw [if_neg e]
      refine (hI.ct j (by omega)).same ?_ ?_
      · rintro b ⟨h1, h2, h3⟩
        rw [hbl b (by omega) h3, kw.block b h2]
      · rintro b ⟨h1, h2, h3⟩
        exact ⟨h1, by omega, hne' b (by omega) h3⟩
  · exact Below.grown ((hI.kp.trans kw).alloc _) g7 (by rw [World.size_alloc]; omega) (fun b hb => (hlt b hb).1)
theorem CIt.rdT {ts : List (Int × List Nd)} {W wr wf w0 : World} {ta ta0 : Option Addr} {ct : Nat} {K : List (Int × Option Addr × Nat × Nat)} (hI : CIt ts W ts.length (.slice ta ts.length ct) wr K) (hs : ∀ b, W.heap.size ≤ b → wf.heap[b]? = wr.heap[b]?) (h0 : RdT w0 ta0 ts) : RdT wf ta ts := by
  intro j hj
  have ho : OwnT W.heap.size wf (.slice ta ts.length ct) K := hI.own.same (fun b hb => hs b (hI.own.block hb).1)
  obtain ⟨a', c', e, hc, hr⟩ := ho.shape
  simp only [Value.slice.injEq] at e
  obtain ⟨rfl, -, rfl⟩ := e
  obtain ⟨b, rfl, hb⟩ := hr j (by rw [hI.len]; exact hj)
  obtain ⟨b0, o0, na0, nc0, -, -, -, hn, -, hl, hf⟩ := h0 j hj
  obtain ⟨e1, e2, e3⟩ := hI.eq j hj
  have hC : CT wf (fun _ => True) _ _ _ := (hI.ct j hj).same (fun b hb => hs b hb.1) (fun _ _ => trivial)
  have c0 := hb 0 _ (by omega) rfl
  have c1 := hb 1 _ (by omega) rfl
  rw [e1] at c0
  rw [e2] at c1
  refine ⟨b, 0, _, _, rfl, by rw [Nat.zero_add]; exact c0, by rw [Nat.zero_add]; exact c1, hC.rdN hn, e3, hl, hf⟩
theorem fin_store (wr : World) (h : Nat) (u v0 v1 v2 v3 v4 x0 x1 x2 x3 x4 : Value) (y1 : wr.heap[h + 1]? = some (.cells #[x0, x1, x2, x3, x4] 26 (0, 0))) :
    ((((((wr.setCell ⟨h + 1 + 1, 4, none⟩ u).setCell ⟨h + 1, 0, none⟩ v0).setCell ⟨h + 1, 1, none⟩ v1).setCell ⟨h + 1, 2, none⟩ v2).setCell ⟨h + 1, 3, none⟩ v3).setCell ⟨h + 1, 4, none⟩ v4).heap[h + 1]? = some (.cells #[v0, v1, v2, v3, v4] 26 (0, 0)) ∧
    ∀ b, b ≠ h + 1 → b ≠ h + 1 + 1 → ((((((wr.setCell ⟨h + 1 + 1, 4, none⟩ u).setCell ⟨h + 1, 0, none⟩ v0).setCell ⟨h + 1, 1, none⟩ v1).setCell ⟨h + 1, 2, none⟩ v2).setCell ⟨h + 1, 3, none⟩ v3).setCell ⟨h + 1, 4, none⟩ v4).heap[b]? = wr.heap[b]? := by
  have a0 := (neq_set wr (h + 1 + 1) 4 u (h + 1) (by omega)).trans y1
  have a1 := heap_setCell_same _ (h + 1) 0 _ 26 v0 a0
  have a2 := heap_setCell_same _ (h + 1) 1 _ 26 v1 a1
  have a3 := heap_setCell_same _ (h + 1) 2 _ 26 v2 a2
  have a4 := heap_setCell_same _ (h + 1) 3 _ 26 v3 a3
  have a5 := heap_setCell_same _ (h + 1) 4 _ 26 v4 a4
  refine ⟨by simpa using a5, fun b h1 h2 => ?_⟩
  rw [neq_set _ _ _ _ b h1, neq_set _ _ _ _ b h1, neq_set _ _ _ _ b h1, neq_set _ _ _ _ b h1, neq_set _ _ _ _ b h1, neq_set _ _ _ _ b h2]
end Go.Proofs.YtinjikoocegooaaGreatDoor
set_option linter.unusedVariables false
set_option linter.unusedSimpArgs false
namespace Go.Proofs.YtinjikoocegooaaGreatDoor
open Go.RowKit Go.Shelf
attribute [local go_sem] run_store_float
theorem nd_list_ext {L M : List Nd} (hl : L.length = M.length) (h : ∀ j, j < L.length → L.getD j nd0 = M.getD j nd0) : L = M := by
  refine List.ext_getElem hl fun j h1 h2 => ?_
  have := h j h1
  simpa [List.getD, h1, h2] using this
theorem boxes2n (w : World) (u v : Array Value) (t1 t2 : Nat) : ∃ w4, (w.alloc (Obj.cells u t1)).alloc (Obj.cells v t2) = w4 ∧ Keep w w4 ∧ w4.heap.size = w.heap.size + 2 ∧
    w4.heap[w.heap.size]? = some (Obj.cells u t1 (0, 0)) ∧ w4.heap[w.heap.size + 1]? = some (Obj.cells v t2 (0, 0)) := by
  refine ⟨_, rfl, ((Keep.refl w).alloc _).alloc _, by simp, ?_, ?_⟩
  · exact (Below.heap_alloc _ _ _ (by simp)).trans (heap_alloc_new w _)
  · have := heap_alloc_new (w.alloc (Obj.cells u t1)) (Obj.cells v t2)
    rw [World.size_alloc] at this
    exact this
def updV (x : Nat → Value) (i : Nat) (v : Value) : Nat → Value := fun j => if j = i then v else x j
end Go.Proofs.YtinjikoocegooaaGreatDoor
set_option linter.unusedVariables false
set_option linter.unusedSimpArgs false
namespace Go.Proofs.YtinjikoocegooaaGreatDoor
open Go.RowKit Go.Shelf
theorem eq_bk (W : World) (a b c : Int) : Sem.run Tryz.prog (Op.equalIn 10000 58 (.agg #[.int .i64 a, .int .i64 b, .int .i64 c]) (.agg #[.int .i64 a, .int .i64 b, .int .i64 c])) W = .ok true W := by
  rw [run_equalIn_struct W 9999 58 _ _ (by kernel_rfl) (by kernel_rfl)]
  rw [show (Tryz.prog.fieldsOf 58).toList = _ from by unfold Program.fieldsOf; rw [Tryz.underlying58]]
  simp [Op.eqFields, go_sem, Result.andThen, run_equalIn_int (P := Tryz.prog) W 9998 3 .i64 .i64 _ _ Tryz.underlying3, run_equalIn_int (P := Tryz.prog) W 9998 56 .i64 .i64 _ _ Tryz.underlying56]
theorem eqg_bk : Tryz.prog.eqGuardType Tryz.prog.depth 58 = false := by kernel_rfl
theorem run_eqlB (W : World) (a b c : Int) : Sem.run Tryz.prog (binOp .eql 58 (.agg #[.int .i64 a, .int .i64 b, .int .i64 c]) (.agg #[.int .i64 a, .int .i64 b, .int .i64 c])) W = .ok (.bool true) W := by
  rw [run_eql_struct, eq_bk]; rfl
theorem run_guardB (W : World) (op : BinOp) (x y : Operand) (xs ys : Array Value) : (eqGuard op 58 x y (.agg xs) (.agg ys)).run Tryz.prog W = .ok () W := run_eqGuard_agg W op 58 x y xs ys eqg_bk
attribute [local go_sem high] run_eqlB run_guardB
end Go.Proofs.YtinjikoocegooaaGreatDoor
set_option linter.unusedVariables false
set_option linter.unusedSimpArgs false
namespace Go.Proofs.YtinjikoocegooaaGreatDoor
open Go.RowKit Go.Shelf
attribute [local go_sem] run_store_float
def lf5 : Nd := { kd := 1, vl := 5, ft := 0, th := 0, cs := [], ms := 0, lf := 0, rt := 0 }
abbrev sfs : List ByteArray := [⟨#[97]⟩]
abbrev sts : List (Int × List Nd) := [(0, [lf5])]
theorem ch_small : chB ⟨#[109]⟩ sfs 1 [0] sts = (0, 0, 0) := by decide +kernel
theorem ch_none : chB ⟨#[]⟩ sfs 1 [0] sts = (1, -1, -1) := by decide +kernel
theorem lg_small : lg [lf5] = 5 := by decide +kernel
theorem ret_ens {fn : Func} {t : Tmp} (h : fn.results = #[.cell t 26]) (tmps : Array Value) (w : World) (g : Nat) (v0 v1 v2 v3 v4 : Value) (hp : tmps.getD t undef = .pointer (some ⟨g, 0, none⟩)) (hh : w.heap[g]? = some (.cells #[v0, v1, v2, v3, v4] 26 (0, 0))) :
    (results fn tmps).run Tryz.prog w = .ok (.agg #[v0, v1, v2, v3, v4]) w := results_cell_row h tmps w g 26 _ (0, 0) _ hp hh Tryz.underlying26 rfl (by kernel_rfl)
theorem heap5 {T : Nat} (w : World) (g : Nat) {x0 x1 x2 x3 x4 : Value} (v0 v1 v2 v3 v4 : Value) (h : w.heap[g]? = some (.cells #[x0, x1, x2, x3, x4] T (0, 0))) :
    (((((w.setCell ⟨g, 0, none⟩ v0).setCell ⟨g, 1, none⟩ v1).setCell ⟨g, 2, none⟩ v2).setCell ⟨g, 3, none⟩ v3).setCell ⟨g, 4, none⟩ v4).heap[g]? = some (.cells #[v0, v1, v2, v3, v4] T (0, 0)) := by
  have a0 := heap_setCell_same w g 0 _ T v0 h
  have a1 := heap_setCell_same _ g 1 _ T v1 a0
  have a2 := heap_setCell_same _ g 2 _ T v2 a1
  have a3 := heap_setCell_same _ g 3 _ T v3 a2
  have a4 := heap_setCell_same _ g 4 _ T v4 a3
  simpa using a4
theorem neq5 (w : World) (g : Nat) (v0 v1 v2 v3 v4 : Value) (k : Nat) (hk : k ≠ g) :
    (((((w.setCell ⟨g, 0, none⟩ v0).setCell ⟨g, 1, none⟩ v1).setCell ⟨g, 2, none⟩ v2).setCell ⟨g, 3, none⟩ v3).setCell ⟨g, 4, none⟩ v4).heap[k]? = w.heap[k]? := by
  rw [neq_set _ g 4 v4 k hk, neq_set _ g 3 v3 k hk, neq_set _ g 2 v2 k hk, neq_set _ g 1 v1 k hk, neq_set _ g 0 v0 k hk]
theorem keep5 {w0 w : World} (h : Keep w0 w) (g : Nat) (hg : w0.heap.size ≤ g) (v0 v1 v2 v3 v4 : Value) :
    Keep w0 (((((w.setCell ⟨g, 0, none⟩ v0).setCell ⟨g, 1, none⟩ v1).setCell ⟨g, 2, none⟩ v2).setCell ⟨g, 3, none⟩ v3).setCell ⟨g, 4, none⟩ v4) :=
  ((((h.setCell (p := ⟨g, 0, none⟩) hg v0).setCell (p := ⟨g, 1, none⟩) hg v1).setCell (p := ⟨g, 2, none⟩) hg v2).setCell (p := ⟨g, 3, none⟩) hg v3).setCell (p := ⟨g, 4, none⟩) hg v4
theorem small_rd {w : World} {f b n t : Nat} (hT : Kt w) (hf : w.heap[f]? = some (.cells #[.string ⟨#[97]⟩] 9 (0, 0))) (hb : w.heap[b]? = some (.cells #[.int .i64 0] 2 (0, 0))) (hn : w.heap[n]? = some (.cells (nvs lf5 none 0) 81 (0, 0))) (ht : w.heap[t]? = some (.cells #[.int .i64 0, .slice (some ⟨n, 0, none⟩) 1 1] 48 (0, 0))) (nm : ByteArray) (hnm : nm.size ≤ 281474976710656) :
    EnA w nm (some ⟨f, 0, none⟩) sfs (some ⟨b, 0, none⟩) [0] (some ⟨t, 0, none⟩) sts := by
  obtain ⟨f0, -⟩ := cells1 hf
  obtain ⟨b0, -⟩ := cells1 hb
  obtain ⟨c0, c1, c2, c3, c4, c5, c6, c7⟩ := cells8 hn
  obtain ⟨t0, t1, -, -⟩ := cells2 ht
  refine ⟨hT, hnm, ?_, by decide, ?_, by decide, ?_, ?_, by decide, ?_, ?_⟩
  · intro j hj
    match j, hj with
    | 0, _ => exact ⟨f, 0, rfl, f0⟩
  · intro j hj
    match j, hj with
    | 0, _ => decide
  · intro j hj
    match j, hj with
    | 0, _ => exact ⟨b, 0, rfl, b0⟩
  · intro x hx
    simp at hx; subst hx; decide
  · intro j hj
    match j, hj with
    | 0, _ => decide
  · intro j hj
    match j, hj with
    | 0, _ =>
      refine ⟨t, 0, some ⟨n, 0, none⟩, 1, rfl, t0, t1, ?_, by decide⟩
      intro i hi
      match i, hi with
      | 0, _ => exact ⟨n, 0, none, 0, rfl, ⟨c0, c1, c2, c3, c4, c5, c6, c7, by intro q hq; exact absurd hq (by simp [lf5]), by decide, by decide, by constructor <;> decide⟩⟩
end Go.Proofs.YtinjikoocegooaaGreatDoor
