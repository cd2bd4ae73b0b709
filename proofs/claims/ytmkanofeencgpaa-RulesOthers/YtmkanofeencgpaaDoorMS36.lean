import Derived.Test.YtmkanofeencgpaaDoorProg
import Derived.Test.YtmkanofeencgpaaDoorMS16
import Derived.WalkKit
import Derived.WalkSpells
import Derived.WalkLawsBesides
import Derived.Deep.Draws
import Derived.Deep.QuietTactic
import Derived.BigQuiet
import Derived.Laws.Externs
import Derived.Laws.CopyOwn
import Derived.RangeFuncBox
import Derived.RangeFuncLeaves
import Derived.RangeFuncCalls
import Derived.RangeFuncRecord
import Derived.Below
import Derived.Shelf.Abstract
import Derived.OwnWalkIn
import Derived.TacticsInMore
import Derived.LoopNIn
import Derived.LoopIn
import Derived.Sort.LoopGhostIn
import Derived.Deep.RegionLaw
import Derived.Deep.RegionWith
import Derived.Deep.RegionHeld3
import Derived.Stop.RegionWithIn
import Derived.RegionTactic
import Derived.Orders
import Derived.OrdersIn
import Derived.RegionIn
import Derived.Laws.StructEq
import Derived.Test.YtmkanofeencgpaaDoorMS15
import Derived.Test.YtmkanofeencgpaaDoorYS9
import Derived.Test.YtmkanofeencgpaaDoorYS8
import Derived.Test.YtmkanofeencgpaaDoorYS5
import Derived.Test.YtmkanofeencgpaaDoorYR2
import Derived.Test.YtmkanofeencgpaaDoorYR1
import Derived.Test.YtmkanofeencgpaaDoorYX4
import Derived.Test.YtmkanofeencgpaaDoorYU4
import Derived.Test.YtmkanofeencgpaaDoorYU1
import Derived.Test.YtmkanofeencgpaaDoorYT6
import Derived.Test.YtmkanofeencgpaaDoorYT5
import Derived.Test.YtmkanofeencgpaaDoorYV1
import Derived.Test.YtmkanofeencgpaaDoorYT3
import Derived.Test.YtmkanofeencgpaaDoorYS6
import Derived.Lib.BufferWrite
import Derived.Lib.UnsafeStr
set_option linter.unusedVariables false
set_option linter.unusedSimpArgs false
namespace Go.Proofs.YtmkanofeencgpaaDoor
open Go.RowKit Go.Shelf
attribute [local go_sem] Oper.semAt_some
attribute [local go_sem] run_store_float
set_option maxRecDepth 100000 in
set_option maxHeartbeats 2000000 in
theorem Canon_err (n : Nat) (hn : 3 ≤ n) (a : Option Addr) (cap : Nat) (out : Int) (L : List Nd) (hLn : L.length ≤ 2199023255552) (hE : shE L ≠ 0) (w : World) (hrd : RdN w a L) :
    CallsIn Fence.wide n Tryd.prog 49 #[.agg #[.int .i64 out, .slice a L.length cap]] w fun e w' => e = .returned (.tuple #[.agg #[.int .i64 0, .slice none 0 0], .int .i64 (shE L)]) ∧ Keep w w' := by
  have h1 : 1 ≤ n := by omega
  have hS := fun (wx : World) (k : Keep w wx) => Shape_in (n - 1) wx a cap out L hLn (hrd.keep k)
  refine callsIn_of_wp_marks Tryd.func49 rfl trivial ?_ rfl
  simp only [Tryd.ntmps49, List.size_toArray, List.length_cons, List.length_nil, Nat.reduceAdd, Nat.reduceSub, Array.replicate_succ, Array.replicate_zero, List.push_toArray, List.append_toArray, List.nil_append, List.cons_append]
  obtain ⟨w1, hw1, k1, s1, r0, r1⟩ := boxes2n w #[Value.int .i64 out, Value.slice a L.length cap] #[Value.int .i64 0, Value.slice none 0 0] 43 43
  have hS1 := hS _ k1
  have hB : (shE L == 0) = false := by simpa using hE
  have hB2 : (shE L != 0) = true := by simpa using hE
  clear hE
  generalize shE L = E at hB hB2 hS1 ⊢
  replace hw1 : Hid _ := hw1
  gi_wp2_with fail
  rw [hw1.out]
  refine ⟨trivial, ?_⟩
  refine hS1.mono ?_
  rintro e w2 ⟨rfl, k2⟩
  have hz1 : w.heap.size + 1 < w1.heap.size := (Array.getElem?_eq_some_iff.1 r1).1
  have q1 := (k2.block _ hz1).trans r1
  have e0 := cell_of_row w2 _ 0 _ 43 (0, 0) q1
  have e1 := cell_of_row w2 _ 1 _ 43 (0, 0) q1
  have f0 := frozen_of_row w2 _ 0 _ 43 q1
  have f1 := frozen_of_row w2 _ 1 _ 43 q1
  simp at e0 e1
  replace q1 : Hid _ := q1
  gi_wp2_with fail
  have F2 : ((w2.setCell ⟨w.heap.size + 1, 0, none⟩ (.int .i64 0)).setCell ⟨w.heap.size + 1, 1, none⟩ (.slice none 0 0)).heap[w.heap.size + 1]? = some (.cells #[.int .i64 0, .slice none 0 0] 43 (0, 0)) := by
    have a1 := heap_setCell_same _ (w.heap.size + 1) 0 _ 43 (.int .i64 0) q1.out
    have a2 := heap_setCell_same _ (w.heap.size + 1) 1 _ 43 (.slice none 0 0) a1
    simpa using a2
  refine ⟨_, results_cell_tmp rfl _ _ (w.heap.size + 1) 43 _ (0, 0) _ rfl F2 Tryd.underlying43 rfl (by kernel_rfl), rfl, ?_⟩
  exact ((k1.trans k2).setCell (p := ⟨w.heap.size + 1, 0, none⟩) (by show w.heap.size ≤ w.heap.size + 1; omega) _).setCell (p := ⟨w.heap.size + 1, 1, none⟩) (by show w.heap.size ≤ w.heap.size + 1; omega) _
/-- What Canon answers. -/
def cnoO (L : List Nd) (out : Int) : Int := if shE L = 0 then out else 0
def cnoN (L : List Nd) : List Nd := if shE L = 0 then cnoL L else []
theorem cnoN_len (L : List Nd) (hLn : L.length ≤ 2199023255552) : (cnoN L).length ≤ 2199023255552 := by
  unfold cnoN
  split
  · rename_i h
    unfold cnoL
    have := ord_len (shE_rgt h).wi
    rw [List.length_map]
    omega
  · simp
theorem Canon_any (a : Option Addr) (cap : Nat) (out : Int) (L : List Nd) (hLn : L.length ≤ 2199023255552) (w : World) (hrd : RdN w a L) :
    Calls Tryd.prog 49 #[.agg #[.int .i64 out, .slice a L.length cap]] w fun e w' => ∃ a' c', e = .returned (.tuple #[.agg #[.int .i64 (cnoO L out), .slice a' (cnoN L).length c'], .int .i64 (shE L)]) ∧ (cnoN L).length ≤ c' ∧ RdN w' a' (cnoN L) ∧ Keep w w' ∧ CT w' (fun b => w.heap.size ≤ b ∧ b < w'.heap.size) a' c' (cnoN L) := by
  by_cases hE : shE L = 0
  · have e1 : cnoO L out = out := by unfold cnoO; rw [if_pos hE]
    have e2 : cnoN L = cnoL L := by unfold cnoN; rw [if_pos hE]
    rw [e1, e2, hE]
    exact (callsIn_wide (n := 3)).1 (Canon_in 3 (by omega) a cap out L hLn hE w hrd)
  · have e1 : cnoO L out = 0 := by unfold cnoO; rw [if_neg hE]
    have e2 : cnoN L = [] := by unfold cnoN; rw [if_neg hE]
    rw [e1, e2]
    refine ((callsIn_wide (n := 3)).1 (Canon_err 3 (by omega) a cap out L hLn hE w hrd)).mono ?_
    rintro e w' ⟨rfl, k⟩
    exact ⟨none, 0, rfl, by simp, fun j hj => by simp at hj, k, [], rfl, fun j hj => by simp at hj, OwnN.nil _ _, fun j hj => by simp at hj, fun b hb => (by cases hb), fun j hj => by simp at hj⟩
end Go.Proofs.YtmkanofeencgpaaDoor
set_option linter.unusedVariables false
set_option linter.unusedSimpArgs false
namespace Go.Proofs.YtmkanofeencgpaaDoor
open Go.RowKit Go.Shelf
/-- What the making of an ensemble's trees holds between two rounds: the row lies in the last field of the box B. -/
structure CJt (us : List (Int × List Nd)) (w2 W : World) (B : Nat) (h0 h1 h2 h3 : Value) (k : Nat) (v : Value) (wr : World) (K : List (Int × Option Addr × Nat × Nat)) : Prop where
  len : K.length = k
  eq : ∀ j, j < k → (K.getD j tt0).1 = (us.getD j (0, [])).1 ∧ (K.getD j tt0).2.2.1 = (us.getD j (0, [])).2.length ∧ (us.getD j (0, [])).2.length ≤ (K.getD j tt0).2.2.2
  own : OwnT W.heap.size wr v K
  ct : ∀ j, j < k → CT wr (fun b => W.heap.size ≤ b ∧ b < wr.heap.size ∧ v.ownBlock ≠ some b) (K.getD j tt0).2.1 (K.getD j tt0).2.2.2 (us.getD j (0, [])).2
  kp : Keep w2 wr
  sz : W.heap.size ≤ wr.heap.size
  bx : wr.heap[B]? = some (.cells #[h0, h1, h2, h3, v] 26 (0, 0))
  low : ∀ b, b < W.heap.size → b ≠ B → wr.heap[b]? = W.heap[b]?
theorem CJt.step {us : List (Int × List Nd)} {w2 W : World} {B : Nat} {h0 h1 h2 h3 : Value} {k : Nat} {v : Value} {wr : World} {K : List (Int × Option Addr × Nat × Nat)} (hI : CJt us w2 W B h0 h1 h2 h3 k v wr K) (hB : B < W.heap.size) (hB2 : w2.heap.size ≤ B) {out : Int} {L : List Nd} {an : Option Addr} {cn : Nat} {w6 w7 : World} {v' : Value} {ob : Obj}
    (hT : us.getD k (0, []) = (out, L)) (kw : Keep wr w6) (hC : CT w6 (fun b => wr.heap.size ≤ b ∧ b < w6.heap.size) an cn L) (hc : L.length ≤ cn) (hO : OwnT W.heap.size w7 v' (K ++ [(out, an, L.length, cn)])) (g7 : (w6.alloc ob).grownBy w7 v.ownBlock) (hv : v'.ownBlock = v.ownBlock ∨ v'.ownBlock = some (w6.heap.size + 1)) :
    CJt us w2 W B h0 h1 h2 h3 (k + 1) v' (w7.setCell ⟨B, 4, none⟩ v') (K ++ [(out, an, L.length, cn)]) := by
  have hlt : ∀ b, v.ownBlock = some b → W.heap.size ≤ b ∧ b < wr.heap.size := by
    intro b hb
    obtain ⟨h1, cur, hc⟩ := hI.own.block hb
    exact ⟨h1, (Array.getElem?_eq_some_iff.1 hc).1⟩
  have hle := kw.le
  have hle0 := hI.sz
  have ka : Keep w6 (w6.alloc ob) := (Keep.refl w6).alloc _
  have hsz := g7.size
  rw [World.size_alloc] at hsz
  have hne0 : v.ownBlock ≠ some B := fun e => by have := (hlt B e).1; omega
  have hbl : ∀ b, b < w6.heap.size → v.ownBlock ≠ some b → w7.heap[b]? = w6.heap[b]? := fun b hb hne => (g7.block b (by rw [World.size_alloc]; omega) (fun e => hne e.symm)).trans (ka.block b hb)
  have hbs : ∀ b, b ≠ B → (w7.setCell ⟨B, 4, none⟩ v').heap[b]? = w7.heap[b]? := fun b hb => neq_set w7 _ _ _ b hb
  have hss : (w7.setCell ⟨B, 4, none⟩ v').heap.size = w7.heap.size := by simp
  have hne' : ∀ b, b < w6.heap.size → v.ownBlock ≠ some b → v'.ownBlock ≠ some b := by
    intro b hb hne e
    rcases hv with h | h
    · rw [h] at e; exact hne e
    · rw [h] at e; simp only [Option.some.injEq] at e; omega
  refine ⟨by rw [List.length_append, hI.len]; rfl, ?_, ?_, ?_, ?_, ?_, ?_, ?_⟩
  · intro j hj
    rw [getD_snocT, hI.len]
    by_cases e : j = k
    · rw [if_pos e, e, hT]; exact ⟨rfl, rfl, hc⟩
    · rw [if_neg e]; exact hI.eq j (by omega)
  · exact hO.same (fun b hb => hbs b (by have := (hO.block hb).1; omega))
  · intro j hj
    rw [getD_snocT, hI.len]
    by_cases e : j = k
    · rw [if_pos e, e, hT]
      refine hC.same ?_ ?_
      · rintro b ⟨h1, h2⟩
        rw [hbs b (by omega)]
        exact hbl b h2 (fun e => by have := hlt b e; omega)
      · rintro b ⟨h1, h2⟩
        exact ⟨by omega, by omega, hne' b h2 (fun e => by have := hlt b e; omega)⟩
    · rw [if_neg e]
      refine (hI.ct j (by omega)).same ?_ ?_
      · rintro b ⟨h1, h2, h3⟩
        rw [hbs b (by omega), hbl b (by omega) h3, kw.block b h2]
      · rintro b ⟨h1, h2, h3⟩
        exact ⟨h1, by omega, hne' b (by omega) h3⟩
  · exact Keep.setCell (Below.grown ((hI.kp.trans kw).alloc _) g7 (by rw [World.size_alloc]; have := hI.kp.le; omega) (fun b hb => by have := (hlt b hb).1; omega)) (p := ⟨B, 4, none⟩) hB2 _
  · omega
  · have e1 : w7.heap[B]? = some (.cells #[h0, h1, h2, h3, v] 26 (0, 0)) := (hbl B (by omega) hne0).trans ((kw.block B (by omega)).trans hI.bx)
    have := heap_setCell_same w7 B 4 _ 26 v' e1
    simpa using this
  · intro b hb hbB
    rw [hbs b hbB, hbl b (by omega) (fun e => by have := (hlt b e).1; omega), kw.block b (by omega)]
    exact hI.low b hb hbB
theorem CJt.rdT {us : List (Int × List Nd)} {w2 W wr wf : World} {B : Nat} {h0 h1 h2 h3 : Value} {ta : Option Addr} {ct : Nat} {K : List (Int × Option Addr × Nat × Nat)} (hI : CJt us w2 W B h0 h1 h2 h3 us.length (.slice ta us.length ct) wr K) (hs : ∀ b, W.heap.size ≤ b → wf.heap[b]? = wr.heap[b]?)
    (hn : ∀ j, j < us.length → ∃ w0 a0, RdN w0 a0 (us.getD j (0, [])).2 ∧ (us.getD j (0, [])).2.length ≤ 2199023255552 ∧ (-9223372036854775808 ≤ (us.getD j (0, [])).1 ∧ (us.getD j (0, [])).1 ≤ 9223372036854775807)) : RdT wf ta us ∧ us.length ≤ ct := by
  have ho : OwnT W.heap.size wf (.slice ta us.length ct) K := hI.own.same (fun b hb => hs b (hI.own.block hb).1)
  obtain ⟨a', c', e, hc, hr⟩ := ho.shape
  simp only [Value.slice.injEq] at e
  obtain ⟨rfl, -, rfl⟩ := e
  rw [hI.len] at hc
  refine ⟨?_, hc⟩
  intro j hj
  obtain ⟨b, rfl, hb⟩ := hr j (by rw [hI.len]; exact hj)
  obtain ⟨w0, a0, hn, hl, hf⟩ := hn j hj
  obtain ⟨e1, e2, e3⟩ := hI.eq j hj
  have hC : CT wf (fun _ => True) _ _ _ := (hI.ct j hj).same (fun b hb => hs b hb.1) (fun _ _ => trivial)
  have c0 := hb 0 _ (by omega) rfl
  have c1 := hb 1 _ (by omega) rfl
  rw [e1] at c0
  rw [e2] at c1
  exact ⟨b, 0, _, _, rfl, by rw [Nat.zero_add]; exact c0, by rw [Nat.zero_add]; exact c1, hC.rdN hn, e3, hl, hf⟩
end Go.Proofs.YtmkanofeencgpaaDoor
set_option linter.unusedVariables false
set_option linter.unusedSimpArgs false
namespace Go.Proofs.YtmkanofeencgpaaDoor
open Go.RowKit Go.Shelf
/-- The first tree's fault. -/
def mdE : List (Int × List Nd) → Int
  | [] => 0
  | t :: ts => if shE t.2 = 0 then mdE ts else shE t.2
/-- The trees numbered anew. -/
def mdT (ts : List (Int × List Nd)) : List (Int × List Nd) := ts.map (fun t => (cnoO t.2 t.1, cnoN t.2))
theorem mdT_at {ts : List (Int × List Nd)} {k : Nat} (h : k < ts.length) {out : Int} {L : List Nd} (hT : ts.getD k (0, []) = (out, L)) : (mdT ts).getD k (0, []) = (cnoO L out, cnoN L) := by
  have e : ts[k] = (out, L) := by simpa [List.getD, h] using hT
  simp [mdT, List.getD, h, e]
theorem mdE_ok {ts : List (Int × List Nd)} {k : Nat} (h : k < ts.length) {out : Int} {L : List Nd} (hT : ts.getD k (0, []) = (out, L)) (hE : shE L = 0) : mdE (ts.drop k) = mdE (ts.drop (k + 1)) := by
  rw [drop_one ts k (0, []) h, hT, mdE, if_pos hE]
theorem mdE_bad {ts : List (Int × List Nd)} {k : Nat} (h : k < ts.length) {out : Int} {L : List Nd} (hT : ts.getD k (0, []) = (out, L)) (hE : shE L ≠ 0) : mdE (ts.drop k) = shE L := by
  rw [drop_one ts k (0, []) h, hT, mdE, if_neg hE]
set_option maxRecDepth 100000 in
set_option maxHeartbeats 2000000 in
theorem Model_any (nm : ByteArray) (fa : Option Addr) (fs : List ByteArray) (cf : Nat) (N : Int) (ba : Option Addr) (base : List Int) (cb : Nat) (ta : Option Addr) (ts : List (Int × List Nd)) (ct : Nat) (w : World)
    (hnm : nm.size ≤ 281474976710656) (hf : RdS w fa fs) (hfz : ∀ j, j < fs.length → (fs.getD j ByteArray.empty).size ≤ 281474976710656) (hfl : fs.length ≤ 8796093022208) (hb : RdI w ba base) (hbc : base.length ≤ cb) (hbl : base.length ≤ 17592186044416) (ht : RdT w ta ts) (htl : ts.length ≤ 4398046511104) :
    Calls Tryd.prog 23 #[ens nm fa fs.length cf N ba base.length cb ta ts.length ct] w fun e w' => ((mdE ts = 0 ∧ ∃ fa' cf' ba' cb' ta' ct', e = .returned (.tuple #[ens nm fa' fs.length cf' N ba' base.length cb' ta' ts.length ct', .int .i64 0]) ∧ RdS w' fa' fs ∧ fs.length ≤ cf' ∧ RdI w' ba' base ∧ base.length ≤ cb' ∧ RdT w' ta' (mdT ts) ∧ ts.length ≤ ct') ∨ (mdE ts ≠ 0 ∧ e = .returned (.tuple #[ens ⟨#[]⟩ none 0 0 0 none 0 0 none 0 0, .int .i64 (mdE ts)]))) ∧ Keep w w' := by
  have hH := fun (wx : World) (k : Keep w wx) => copyHead_any nm fa fs cf N ba base cb ta ts.length ct wx hnm (hf.keep k) hfz hfl (hb.keep k) hbc hbl
  unfold ens at hH ⊢
  have hml : (mdT ts).length = ts.length := by simp [mdT]
  obtain ⟨w1, hw1, k1, s1, r0, r1⟩ := boxes2n w #[Value.string nm, Value.slice fa fs.length cf, Value.int IntKind.i64 N, Value.slice ba base.length cb, Value.slice ta ts.length ct] #[Value.string { data := #[] }, Value.slice none 0 0, Value.int IntKind.i64 0, Value.slice none 0 0, Value.slice none 0 0] 26 26
  have hz0 : w.heap.size < w1.heap.size := (Array.getElem?_eq_some_iff.1 r0).1
  have hz1 : w.heap.size + 1 < w1.heap.size := (Array.getElem?_eq_some_iff.1 r1).1
  replace hw1 : Hid _ := hw1
  replace r0 : Hid _ := r0
  replace r1 : Hid _ := r1
  go_enter Tryd.func23, Tryd.ntmps23
  go_wp2_with fail
  rw [hw1.out]
  refine (hH _ k1).mono ?_
  rintro e w2 ⟨fa', cf', ba', cb', rfl, oF, oB, k2⟩
  have q0 := (k2.block _ hz0).trans r0.out
  have q1 := (k2.block _ hz1).trans r1.out
  have kb : Keep w2 (w2.alloc (Obj.cells #[Value.string nm, Value.slice fa' fs.length cf', Value.int IntKind.i64 N, Value.slice ba' base.length cb', Value.slice none 0 0] 26)) := (Keep.refl w2).alloc _
  have tb : (w2.alloc (Obj.cells #[Value.string nm, Value.slice fa' fs.length cf', Value.int IntKind.i64 N, Value.slice ba' base.length cb', Value.slice none 0 0] 26)).heap[w2.heap.size]? = some (Obj.cells #[Value.string nm, Value.slice fa' fs.length cf', Value.int IntKind.i64 N, Value.slice ba' base.length cb', Value.slice none 0 0] 26 (0, 0)) := heap_alloc_new w2 _
  have hz2 : w.heap.size + 1 < w2.heap.size := (Array.getElem?_eq_some_iff.1 q1).1
  have p0 := (kb.block _ (by omega)).trans q0
  have x4 := cell_of_row _ _ 4 _ 26 (0, 0) p0
  simp only [List.getElem?_toArray, List.getElem?_cons_zero, List.getElem?_cons_succ] at x4
  have k02 := k1.trans k2
  clear hH
  replace q0 : Hid _ := q0
  replace q1 : Hid _ := q1
  replace tb : Hid _ := tb
  replace p0 : Hid _ := p0
  go_wp2_with fail
  obtain ⟨W, hW⟩ : ∃ W, w2.alloc (Obj.cells #[Value.string nm, Value.slice fa' fs.length cf', Value.int IntKind.i64 N, Value.slice ba' base.length cb', Value.slice none 0 0] 26) = W := ⟨_, rfl⟩
  have sW : W.heap.size = w2.heap.size + 1 := by rw [← hW]; simp
  rw [hW] at kb tb ⊢
  have htW := ht.keep (k02.trans kb)
  clear hW p0 x4
  go_loopw [14] (fun iv wr => ∃ (k : Nat) (v : Value) (K : List (Int × Option Addr × Nat × Nat)), k ≤ ts.length ∧ iv = .int .i64 k ∧ CJt (mdT ts) w2 W w2.heap.size (.string nm) (.slice fa' fs.length cf') (.int .i64 N) (.slice ba' base.length cb') k v wr K ∧ Hid (mdE ts = mdE (ts.drop k)) ∧ Hid (∀ j, j < k → ∃ w0 a0, RdN w0 a0 ((mdT ts).getD j (0, [])).2 ∧ ((mdT ts).getD j (0, [])).2.length ≤ 2199023255552 ∧ (-9223372036854775808 ≤ ((mdT ts).getD j (0, [])).1 ∧ ((mdT ts).getD j (0, [])).1 ≤ 9223372036854775807))) (fun iv _ => ts.length - (intOf iv).toNat)
  case atStart => exact ⟨0, .slice none 0 0, [], by omega, rfl, ⟨rfl, fun j hj => by omega, OwnT.nil _ _, fun j hj => by omega, kb, Nat.le_refl _, tb.out, fun b _ _ => rfl⟩, rfl, fun j hj => by omega⟩
  case round =>
    obtain ⟨k, v, K, hk, rfl, hI, hme, hnn⟩ := hrel
    have kwr : Keep w wr := k02.trans hI.kp
    by_cases hkl : k < ts.length
    · have hkc : (k : Int) < (ts.length : Int) := by omega
      obtain ⟨b, o, na, nc, rfl, d0, d1, dn, dc, dl, df⟩ := (ht.keep kwr) k hkl
      obtain ⟨T, hT⟩ : ∃ T, ts.getD k (0, []) = T := ⟨_, rfl⟩
      have HT : Hid (ts.getD k (0, []) = T) := hT
      rw [hT] at d0 d1 dn dc dl df
      clear hT
      obtain ⟨out, L⟩ := T
      simp only at d0 d1 dn dc dl df
      have kx : Keep wr (wr.alloc (Obj.cells #[Value.int IntKind.i64 out, Value.slice na L.length nc] 43)) := (Keep.refl wr).alloc _
      have hzB : w2.heap.size < wr.heap.size := (Array.getElem?_eq_some_iff.1 hI.bx).1
      have hCn := Canon_any na nc out L dl (wr.alloc (Obj.cells #[Value.int IntKind.i64 out, Value.slice na L.length nc] 43)) (dn.keep kx)
      have hKl : K.length + 1 ≤ 4398046511104 := by have := hI.len; omega
      have HU := mdT_at hkl HT.out
      obtain ⟨O, hO'⟩ : ∃ O, cnoO L out = O := ⟨_, rfl⟩
      obtain ⟨M, hM⟩ : ∃ M, cnoN L = M := ⟨_, rfl⟩
      rw [hO', hM] at hCn HU
      replace HU : Hid _ := HU
      by_cases hE : shE L = 0
      · rw [hE] at hCn
        have HE : Hid (mdE ts = mdE (ts.drop (k + 1))) := hme.out.trans (mdE_ok hkl HT.out hE)
        clear hE hme
        have HM := cnoN_len L dl
        rw [hM] at HM
        have hOb : -9223372036854775808 ≤ O ∧ O ≤ 9223372036854775807 := by rw [← hO']; unfold cnoO; split; exact df; omega
        go_wp2_with (first | (go_at_call 49; refine hCn.mono ?_; rintro e w6 ⟨an, cn, rfl, hcn, hrn, k6, hC6⟩; have kq := fun ob => (kx.trans k6).alloc ob; have bq := fun ob => ((kq ob).block _ hzB).trans hI.bx; have c4 := fun ob => cell_of_row _ _ 4 _ 26 (0, 0) (bq ob); simp only [List.getElem?_toArray, List.getElem?_cons_zero, List.getElem?_cons_succ] at c4; replace bq : Hid _ := bq) | (at_builtin; refine wpList_appT W.heap.size _ rfl _ _ rfl K (O, an, M.length, cn) v ?_ (hI.own.keep ((kq _).alloc _)) (Nat.le_trans hI.sz ((kq _).alloc _).le) ⟨w6.heap.size + 1, 0, none⟩ 1 ?_ (by have h := newsT (w6.alloc (Obj.cells #[Value.int IntKind.i64 O, Value.slice an M.length cn] 43)) O an M.length cn; rw [World.size_alloc] at h; exact h) hKl ?_; rotate_left 2; intro v7 w7 hO7 g7 hv7; obtain ⟨a7, c7, rfl, hc7, -⟩ := hO7.shape; have bx7 : w7.heap[w2.heap.size]? = some (.cells #[.string nm, .slice fa' fs.length cf', .int .i64 N, .slice ba' base.length cb', v] 26 (0, 0)) := (g7.block _ (by simp only [World.size_alloc]; have := (kx.trans k6).le; omega) (fun e => by have := (hI.own.block e.symm).1; omega)).trans ((((kq (Obj.cells #[Value.int IntKind.i64 O, Value.slice an M.length cn] 43)).alloc _).block _ hzB).trans hI.bx); have z4 := cell_of_row _ _ 4 _ 26 (0, 0) bx7; have f4 := frozen_of_row _ _ 4 _ 26 bx7; simp only [List.getElem?_toArray, List.getElem?_cons_zero, List.getElem?_cons_succ] at z4; replace bx7 : Hid _ := bx7))
        · have hJ := hI.step (by omega) (Nat.le_refl _) HU.out (kq (Obj.cells #[Value.int IntKind.i64 O, Value.slice an M.length cn] 43)) (hC6.same (fun b hb => Below.heap_alloc _ _ _ hb.2) (fun b hb => ⟨by have h1 := hb.1; have h2 := kx.le; omega, by rw [World.size_alloc]; have := hb.2; omega⟩)) hcn hO7 g7 (by simpa using hv7)
          rw [show (K ++ [(O, an, M.length, cn)]).length = K.length + 1 by simp] at hJ
          have HNN : Hid (∀ j, j < k + 1 → ∃ w0 a0, RdN w0 a0 ((mdT ts).getD j (0, [])).2 ∧ ((mdT ts).getD j (0, [])).2.length ≤ 2199023255552 ∧ (-9223372036854775808 ≤ ((mdT ts).getD j (0, [])).1 ∧ ((mdT ts).getD j (0, [])).1 ≤ 9223372036854775807)) := by
            intro j hj
            by_cases e : j = k
            · subst e; rw [HU.out]; exact ⟨w6, an, hrn, HM, hOb⟩
            · exact hnn.out j (by omega)
          exact ⟨⟨k + 1, _, _, by omega, by go_num, hJ, HE, HNN⟩, by simp [intOf]; omega⟩
        all_goals rfl
      · have HE : Hid (mdE ts = shE L) := hme.out.trans (mdE_bad hkl HT.out hE)
        have hne : mdE ts ≠ 0 := by rw [HE.out]; exact hE
        have hB : (shE L == 0) = false := by simpa using hE
        have hB2 : (shE L != 0) = true := by simpa using hE
        clear hE hme
        generalize shE L = E at *
        have m1 : wr.heap[w.heap.size + 1]? = _ := (hI.kp.block _ hz2).trans q1.out
        go_wp2_with fail
        refine hCn.mono ?_
        rintro e w6 ⟨an, cn, rfl, hcn, hrn, k6, hC6⟩
        have kq : Keep wr (w6.alloc (Obj.cells #[Value.int IntKind.i64 O, Value.slice an M.length cn] 43)) := (kx.trans k6).alloc _
        have m6 := (kq.block _ (by omega)).trans m1
        have y0 := cell_of_row _ _ 0 _ 26 (0, 0) m6
        have y1 := cell_of_row _ _ 1 _ 26 (0, 0) m6
        have y2 := cell_of_row _ _ 2 _ 26 (0, 0) m6
        have y3 := cell_of_row _ _ 3 _ 26 (0, 0) m6
        have y4 := cell_of_row _ _ 4 _ 26 (0, 0) m6
        have f0 := frozen_of_row _ _ 0 _ 26 m6
        have f1 := frozen_of_row _ _ 1 _ 26 m6
        have f2 := frozen_of_row _ _ 2 _ 26 m6
        have f3 := frozen_of_row _ _ 3 _ 26 m6
        have f4 := frozen_of_row _ _ 4 _ 26 m6
        simp only [List.getElem?_toArray, List.getElem?_cons_zero, List.getElem?_cons_succ] at y0 y1 y2 y3 y4
        replace m6 : Hid _ := m6
        replace m1 : Hid _ := m1
        go_wp2_with fail
        obtain ⟨F2, F1⟩ := store5 (w6.alloc (Obj.cells #[Value.int IntKind.i64 O, Value.slice an M.length cn] 43)) (w.heap.size + 1) 26 _ _ _ _ _ (.string ⟨#[]⟩) (.slice none 0 0) (.int .i64 0) (.slice none 0 0) (.slice none 0 0) m6.out
        try simp only [Exit.inBlock, Exit.then]
        refine bodyPost_ret (results_cell_tmp rfl _ _ (w.heap.size + 1) 26 _ (0, 0) _ rfl F2 Tryd.underlying26 rfl (by kernel_rfl)) rfl ?_
        refine ⟨.inr ⟨hne, by rw [HE.out]; rfl⟩, ?_⟩
        exact (((((kwr.trans kq).setCell (p := ⟨w.heap.size + 1, 0, none⟩) (by show w.heap.size ≤ w.heap.size + 1; omega) _).setCell (p := ⟨w.heap.size + 1, 1, none⟩) (by show w.heap.size ≤ w.heap.size + 1; omega) _).setCell (p := ⟨w.heap.size + 1, 2, none⟩) (by show w.heap.size ≤ w.heap.size + 1; omega) _).setCell (p := ⟨w.heap.size + 1, 3, none⟩) (by show w.heap.size ≤ w.heap.size + 1; omega) _).setCell (p := ⟨w.heap.size + 1, 4, none⟩) (by show w.heap.size ≤ w.heap.size + 1; omega) _
    · have hkc : ¬ (k : Int) < (ts.length : Int) := by omega
      obtain rfl : k = ts.length := by omega
      obtain ⟨ta', ct', rfl, hct, -⟩ := hI.own.shape
      have hI' : CJt (mdT ts) w2 W w2.heap.size (.string nm) (.slice fa' fs.length cf') (.int .i64 N) (.slice ba' base.length cb') (mdT ts).length (.slice ta' (mdT ts).length ct') wr K := by have h := hI; rw [hI.len] at h; rw [hml]; exact h
      have hm0 : Hid (mdE ts = 0) := by show _ = _; rw [hme.out, List.drop_eq_nil_of_le (Nat.le_refl _)]; rfl
      rw [hI.len] at hct
      have bxc := hI'.bx
      rw [hml] at bxc
      have m1 : wr.heap[w.heap.size + 1]? = _ := (hI.kp.block _ hz2).trans q1.out
      have g0 := cell_of_row wr _ 0 _ 26 (0, 0) bxc
      have g1 := cell_of_row wr _ 1 _ 26 (0, 0) bxc
      have g2 := cell_of_row wr _ 2 _ 26 (0, 0) bxc
      have g3 := cell_of_row wr _ 3 _ 26 (0, 0) bxc
      have g4 := cell_of_row wr _ 4 _ 26 (0, 0) bxc
      have y0 := cell_of_row wr _ 0 _ 26 (0, 0) m1
      have y1 := cell_of_row wr _ 1 _ 26 (0, 0) m1
      have y2 := cell_of_row wr _ 2 _ 26 (0, 0) m1
      have y3 := cell_of_row wr _ 3 _ 26 (0, 0) m1
      have y4 := cell_of_row wr _ 4 _ 26 (0, 0) m1
      have f0 := frozen_of_row wr _ 0 _ 26 m1
      have f1 := frozen_of_row wr _ 1 _ 26 m1
      have f2 := frozen_of_row wr _ 2 _ 26 m1
      have f3 := frozen_of_row wr _ 3 _ 26 m1
      have f4 := frozen_of_row wr _ 4 _ 26 m1
      simp only [List.getElem?_toArray, List.getElem?_cons_zero, List.getElem?_cons_succ] at g0 g1 g2 g3 g4 y0 y1 y2 y3 y4
      replace m1 : Hid _ := m1
      replace bxc : Hid _ := bxc
      go_wp2_with fail
      obtain ⟨F2, F1⟩ := store5 wr (w.heap.size + 1) 26 _ _ _ _ _ (.string nm) (.slice fa' fs.length cf') (.int .i64 N) (.slice ba' base.length cb') (.slice ta' ts.length ct') m1.out
      try simp only [Exit.inBlock, Exit.then]
      refine bodyPost_ret (results_cell_tmp rfl _ _ (w.heap.size + 1) 26 _ (0, 0) _ rfl F2 Tryd.underlying26 rfl (by kernel_rfl)) rfl ?_
      have hk12 := k1.le
      have oF' := oF.mono (B' := w.heap.size) (by have := k1.le; omega)
      have lowb : ∀ g, w1.heap.size ≤ g → g < w2.heap.size → wr.heap[g]? = w2.heap[g]? := fun g h1 h2 => hI.kp.block g h2
      have oF2 := oF.same (w' := (((((wr.setCell ⟨w.heap.size + 1, 0, none⟩ (.string nm)).setCell ⟨w.heap.size + 1, 1, none⟩ (.slice fa' fs.length cf')).setCell ⟨w.heap.size + 1, 2, none⟩ (.int .i64 N)).setCell ⟨w.heap.size + 1, 3, none⟩ (.slice ba' base.length cb')).setCell ⟨w.heap.size + 1, 4, none⟩ (.slice ta' ts.length ct'))) (fun g hg => by
        obtain ⟨h1, c, h2⟩ := oF.block hg
        rw [F1 g (by omega)]
        exact lowb g h1 (Array.getElem?_eq_some_iff.1 h2).1)
      have oB2 := oB.same (w' := (((((wr.setCell ⟨w.heap.size + 1, 0, none⟩ (.string nm)).setCell ⟨w.heap.size + 1, 1, none⟩ (.slice fa' fs.length cf')).setCell ⟨w.heap.size + 1, 2, none⟩ (.int .i64 N)).setCell ⟨w.heap.size + 1, 3, none⟩ (.slice ba' base.length cb')).setCell ⟨w.heap.size + 1, 4, none⟩ (.slice ta' ts.length ct'))) (fun g hg => by
        obtain ⟨h1, c, h2⟩ := oB.block hg
        rw [F1 g (by omega)]
        exact lowb g h1 (Array.getElem?_eq_some_iff.1 h2).1)
      obtain ⟨_, _, eF, hF1, hF2⟩ := oF2.shape
      obtain ⟨_, _, eB, hB1, hB2⟩ := oB2.shape
      simp only [Value.slice.injEq] at eF eB
      obtain ⟨rfl, -, rfl⟩ := eF
      obtain ⟨rfl, -, rfl⟩ := eB
      have hTT := hI'.rdT (wf := (((((wr.setCell ⟨w.heap.size + 1, 0, none⟩ (.string nm)).setCell ⟨w.heap.size + 1, 1, none⟩ (.slice fa' fs.length cf')).setCell ⟨w.heap.size + 1, 2, none⟩ (.int .i64 N)).setCell ⟨w.heap.size + 1, 3, none⟩ (.slice ba' base.length cb')).setCell ⟨w.heap.size + 1, 4, none⟩ (.slice ta' ts.length ct'))) (fun g hg => F1 g (by omega)) (fun j hj => hnn.out j (by rw [hml] at hj; exact hj))
      rw [hml] at hTT
      refine ⟨.inl ⟨hm0.out, _, _, _, _, _, _, rfl, hF2, hF1, hB2, hB1, hTT.1, hTT.2⟩, ?_⟩
      exact ((((kwr.setCell (p := ⟨w.heap.size + 1, 0, none⟩) (by show w.heap.size ≤ w.heap.size + 1; omega) _).setCell (p := ⟨w.heap.size + 1, 1, none⟩) (by show w.heap.size ≤ w.heap.size + 1; omega) _).setCell (p := ⟨w.heap.size + 1, 2, none⟩) (by show w.heap.size ≤ w.heap.size + 1; omega) _).setCell (p := ⟨w.heap.size + 1, 3, none⟩) (by show w.heap.size ≤ w.heap.size + 1; omega) _).setCell (p := ⟨w.heap.size + 1, 4, none⟩) (by show w.heap.size ≤ w.heap.size + 1; omega) _
end Go.Proofs.YtmkanofeencgpaaDoor
set_option linter.unusedVariables false
set_option linter.unusedSimpArgs false
namespace Go.Proofs.YtmkanofeencgpaaDoor
open Go.RowKit Go.Shelf
theorem ord_full {L : List Nd} (h : shE L = 0) : (ord (shp L) L.length).length = L.length := by
  have ht := shE_tr h
  have h1 := ord_len ht.wi
  have h2 := List.Nodup.length_le_of_subset (l₁ := List.range L.length) (l₂ := ord (shp L) L.length) List.nodup_range (fun i hi => ord_all ht (List.mem_range.1 hi))
  rw [List.length_range] at h2
  omega
theorem zip_other : ∀ (l : List Nat) (s : Nat) (a : List Nat) (x : Nat), x ∉ l → ((l.zipIdx s).foldl (fun a y => a.set y.1 y.2) a).getD x 0 = a.getD x 0
  | [], s, a, x, _ => rfl
  | y :: l, s, a, x, h => by
    rw [List.zipIdx_cons, List.foldl_cons, zip_other l (s + 1) _ x (fun e => h (List.mem_cons_of_mem _ e))]
    have hne : y ≠ x := fun e => h (e ▸ List.mem_cons_self ..)
    simp [List.getD, List.getElem?_set, hne]
theorem zip_at : ∀ (l : List Nat) (s : Nat) (a : List Nat) (j : Nat), l.Nodup → (hj : j < l.length) → l[j] < a.length → ((l.zipIdx s).foldl (fun a y => a.set y.1 y.2) a).getD l[j] 0 = s + j
  | [], s, a, j, _, hj, _ => by simp at hj
  | y :: l, s, a, 0, hn, _, hl => by
    rw [List.zipIdx_cons, List.foldl_cons]
    simp only [List.getElem_cons_zero] at hl ⊢
    rw [zip_other l (s + 1) _ y (List.nodup_cons.1 hn).1]
    simp [List.getD, hl]
  | y :: l, s, a, j + 1, hn, hj, hl => by
    rw [List.zipIdx_cons, List.foldl_cons]
    simp only [List.getElem_cons_succ] at hl ⊢
    rw [zip_at l (s + 1) _ j (List.nodup_cons.1 hn).2 (by simpa using hj) (by simpa using hl)]
    omega
/-- anF is the inverse of the order. -/
theorem anF_at {n : Nat} {p : List Nat} (hn : p.Nodup) {j : Nat} (hj : j < p.length) (hl : p[j] < n) : (anF n p).getD p[j] 0 = j := by
  unfold anF
  rw [zip_at p 0 _ j hn hj (by simpa using hl)]
  omega
theorem ord_head (t : Sh) (n : Nat) : ∃ q, ord t n = 0 :: q := by
  have h : [0] <+: ord t n := by
    unfold ord
    rw [show 3 * n + 1 = (3 * n) + 1 from rfl, go]
    simp only [List.not_mem_nil, if_false, List.nil_append]
    exact go_pre t _ _ _
  obtain ⟨q, hq⟩ := h
  exact ⟨q, by rw [← hq]; rfl⟩
theorem anF_zero {L : List Nd} (h : shE L = 0) : (anF L.length (ord (shp L) L.length)).getD 0 0 = 0 := by
  have ht := shE_tr h
  obtain ⟨q, hq⟩ := ord_head (shp L) L.length
  have hl : 0 < (ord (shp L) L.length).length := by rw [hq]; simp
  have e : (ord (shp L) L.length)[0] = 0 := by simp [hq]
  have := anF_at (n := L.length) (ord_nodup ht.wi) hl (by rw [e]; exact (shE_rgt h).1)
  rw [e] at this
  exact this
/-- A leaf stays as it is. -/
theorem rcN_leaf {L : List Nd} (h : shE L = 0) {i : Nat} (hi : i < L.length) (hk : (L.getD i nd0).kd = 1) : rcN (anF L.length (ord (shp L) L.length)) (L.getD i nd0) = L.getD i nd0 := by
  have hr := (shE_rgt h).2 i hi
  have hz := anF_zero h
  generalize L.getD i nd0 = n at *
  unfold rightB at hr
  rw [if_pos hk] at hr
  simp only [Bool.and_eq_true, decide_eq_true_eq] at hr
  have e1 : n.lf = 0 := hr.1.2
  have e2 : n.rt = 0 := hr.2
  obtain ⟨kd, vl, ft, th, cs, ms, lf, rt⟩ := n
  simp only at e1 e2
  subst e1 e2
  unfold rcN
  simp only [Int.toNat_zero, hz]
  rfl
end Go.Proofs.YtmkanofeencgpaaDoor
set_option linter.unusedVariables false
set_option linter.unusedSimpArgs false
namespace Go.Proofs.YtmkanofeencgpaaDoor
/-- Numbered anew by f: the same shape. -/
structure Iso (t u : Sh) (n : Nat) (f : Nat → Nat) : Prop where
  z : f 0 = 0
  lt : ∀ i, i < n → f i < n
  inj : ∀ i j, i < n → j < n → f i = f j → i = j
  sur : ∀ j, j < n → ∃ i, i < n ∧ f i = j
  k : ∀ i, i < n → u.K (f i) = t.K i
  a : ∀ i, i < n → t.K i = true → u.A (f i) = f (t.A i)
  b : ∀ i, i < n → t.K i = true → u.B (f i) = f (t.B i)
theorem Iso.rch {t u : Sh} {n i : Nat} {f : Nat → Nat} (h : Iso t u n f) (ht : In t n) (r : Rch t i) : Rch u (f i) := by
  induction r with
  | zero => rw [h.z]; exact .zero
  | left r hk ih =>
    have hi := r.lt ht
    rw [← h.a _ hi hk]
    exact .left ih ((h.k _ hi).trans hk)
  | right r hk ih =>
    have hi := r.lt ht
    rw [← h.b _ hi hk]
    exact .right ih ((h.k _ hi).trans hk)
def one (t : Sh) (j i : Nat) : Nat := (if t.K i = true ∧ t.A i = j then 1 else 0) + (if t.K i = true ∧ t.B i = j then 1 else 0)
theorem cnt_sum (t : Sh) (j : Nat) : ∀ m, cnt t j m = ((List.range m).map (one t j)).sum
  | 0 => rfl
  | m + 1 => by
    rw [cnt, cnt_sum t j m, List.range_succ, List.map_append, List.sum_append]
    simp [one, Nat.add_assoc]
theorem perm_sum {l r : List Nat} (h : l.Perm r) : l.sum = r.sum := by
  induction h with
  | nil => rfl
  | cons x _ ih => simp [ih]
  | swap x y l => simp; omega
  | trans _ _ h1 h2 => exact h1.trans h2
theorem nodup_map {f : Nat → Nat} {n : Nat} (hf : ∀ i j, i < n → j < n → f i = f j → i = j) : ∀ {l : List Nat}, (∀ i ∈ l, i < n) → l.Nodup → (l.map f).Nodup
  | [], _, _ => by simp
  | x :: l, hl, hn => by
    rw [List.nodup_cons] at hn
    rw [List.map_cons, List.nodup_cons]
    refine ⟨fun e => ?_, nodup_map hf (fun i hi => hl i (List.mem_cons_of_mem _ hi)) hn.2⟩
    obtain ⟨j, hj, e⟩ := List.mem_map.1 e
    exact hn.1 (hf j x (hl j (List.mem_cons_of_mem _ hj)) (hl x (List.mem_cons_self ..)) e ▸ hj)
theorem Iso.perm {t u : Sh} {n : Nat} {f : Nat → Nat} (h : Iso t u n f) : ((List.range n).map f).Perm (List.range n) := by
  rw [List.perm_ext_iff_of_nodup (nodup_map h.inj (fun i hi => List.mem_range.1 hi) List.nodup_range) List.nodup_range]
  intro j
  rw [List.mem_map, List.mem_range]
  constructor
  · rintro ⟨i, hi, rfl⟩; exact h.lt i (List.mem_range.1 hi)
  · intro hj
    obtain ⟨i, hi, e⟩ := h.sur j hj
    exact ⟨i, List.mem_range.2 hi, e⟩
theorem Iso.one {t u : Sh} {n : Nat} {f : Nat → Nat} (h : Iso t u n f) (ht : In t n) {i j : Nat} (hi : i < n) (hj : j < n) : one u (f j) (f i) = one t j i := by
  unfold Go.Proofs.YtmkanofeencgpaaDoor.one
  rw [h.k i hi]
  cases hk : t.K i with
  | false => simp
  | true =>
    rw [h.a i hi hk, h.b i hi hk]
    have hl := ht.2 i hi hk
    have e1 : (f (t.A i) = f j) = (t.A i = j) := propext ⟨fun e => h.inj _ _ hl.1 hj e, fun e => by rw [e]⟩
    have e2 : (f (t.B i) = f j) = (t.B i = j) := propext ⟨fun e => h.inj _ _ hl.2 hj e, fun e => by rw [e]⟩
    simp only [e1, e2]
theorem Iso.cnt {t u : Sh} {n : Nat} {f : Nat → Nat} (h : Iso t u n f) (ht : In t n) {j : Nat} (hj : j < n) : cnt u (f j) n = cnt t j n := by
  rw [cnt_sum, cnt_sum, ← perm_sum (h.perm.map (Go.Proofs.YtmkanofeencgpaaDoor.one u (f j))), List.map_map]
  congr 1
  apply List.map_congr_left
  intro i hi
  exact h.one ht (List.mem_range.1 hi) hj
theorem Iso.inn {t u : Sh} {n : Nat} {f : Nat → Nat} (h : Iso t u n f) (ht : In t n) : In u n := by
  refine ⟨ht.1, fun j hj hk => ?_⟩
  obtain ⟨i, hi, rfl⟩ := h.sur j hj
  have hk' : t.K i = true := (h.k i hi).symm.trans hk
  rw [h.a i hi hk', h.b i hi hk']
  exact ⟨h.lt _ (ht.2 i hi hk').1, h.lt _ (ht.2 i hi hk').2⟩
theorem Iso.tr {t u : Sh} {n : Nat} {f : Nat → Nat} (h : Iso t u n f) (ht : Tr t n) : Tr u n := by
  refine ⟨h.inn ht.wi, fun j hj hk => ?_, fun j h0 hj => ?_, fun j hj => ?_⟩
  · obtain ⟨i, hi, rfl⟩ := h.sur j hj
    have hk' : t.K i = true := (h.k i hi).symm.trans hk
    rw [h.a i hi hk', h.b i hi hk']
    have hz := ht.z i hi hk'
    have hl := ht.wi.2 i hi hk'
    exact ⟨fun e => hz.1 (h.inj _ _ hl.1 ht.wi.1 (e.trans h.z.symm)), fun e => hz.2 (h.inj _ _ hl.2 ht.wi.1 (e.trans h.z.symm))⟩
  · obtain ⟨i, hi, rfl⟩ := h.sur j hj
    rw [h.cnt ht.wi hi]
    exact ht.one i (by
      rcases Nat.eq_zero_or_pos i with e | e
      · rw [e, h.z] at h0; exact absurd h0 (Nat.lt_irrefl _)
      · exact e) hi
  · obtain ⟨i, hi, rfl⟩ := h.sur j hj
    exact h.rch ht.wi (ht.re i hi)
end Go.Proofs.YtmkanofeencgpaaDoor
set_option linter.unusedVariables false
set_option linter.unusedSimpArgs false
namespace Go.Proofs.YtmkanofeencgpaaDoor
open Go.RowKit Go.Shelf
/-- Where a node of a right tree stands, numbered anew. -/
def phi (L : List Nd) (i : Nat) : Nat := (anF L.length (ord (shp L) L.length)).getD i 0
theorem phi_ord {L : List Nd} (h : shE L = 0) {j : Nat} (hj : j < L.length) : (ord (shp L) L.length).getD j 0 < L.length ∧ phi L ((ord (shp L) L.length).getD j 0) = j := by
  have ht := shE_tr h
  have hj' : j < (ord (shp L) L.length).length := by rw [ord_full h]; exact hj
  have e : (ord (shp L) L.length).getD j 0 = (ord (shp L) L.length)[j] := by simp [List.getD, hj']
  have hl : (ord (shp L) L.length)[j] < L.length := ord_lt ht.wi _ (List.getElem_mem _)
  rw [e]
  exact ⟨hl, anF_at (ord_nodup ht.wi) hj' hl⟩
theorem phi_inv {L : List Nd} (h : shE L = 0) {i : Nat} (hi : i < L.length) : phi L i < L.length ∧ (ord (shp L) L.length).getD (phi L i) 0 = i := by
  have ht := shE_tr h
  obtain ⟨j, hj, e⟩ := List.getElem_of_mem (ord_all ht hi)
  have hj' : j < L.length := by rw [← ord_full h]; exact hj
  have e2 : (ord (shp L) L.length).getD j 0 = i := by simp [List.getD, hj, e]
  have := (phi_ord h hj').2
  rw [e2] at this
  rw [this]
  exact ⟨hj', e2⟩
theorem cno_len {L : List Nd} (h : shE L = 0) : (cnoL L).length = L.length := by
  unfold cnoL
  rw [List.length_map, ord_full h]
theorem cno_get {L : List Nd} (h : shE L = 0) {i : Nat} (hi : i < L.length) : (cnoL L).getD (phi L i) nd0 = rcN (anF L.length (ord (shp L) L.length)) (L.getD i nd0) := by
  have h1 := phi_inv h hi
  have h2 : phi L i < (ord (shp L) L.length).length := by rw [ord_full h]; exact h1.1
  have h3 : (ord (shp L) L.length)[phi L i] = i := by
    have := h1.2
    simpa [List.getD, h2] using this
  unfold cnoL
  simp [List.getD, h2, h3]
theorem cno_iso {L : List Nd} (h : shE L = 0) : Iso (shp L) (shp (cnoL L)) L.length (phi L) := by
  refine ⟨anF_zero h, fun i hi => (phi_inv h hi).1, fun i j hi hj e => ?_, fun j hj => ⟨_, phi_ord h hj⟩, fun i hi => ?_, fun i hi _ => ?_, fun i hi _ => ?_⟩
  · have h1 := (phi_inv h hi).2
    rw [e, (phi_inv h hj).2] at h1
    exact h1.symm
  · show decide (((cnoL L).getD (phi L i) nd0).kd = 2 ∨ ((cnoL L).getD (phi L i) nd0).kd = 3) = _
    rw [cno_get h hi]
    rfl
  · show ((cnoL L).getD (phi L i) nd0).lf.toNat = _
    rw [cno_get h hi]
    rfl
  · show ((cnoL L).getD (phi L i) nd0).rt.toNat = _
    rw [cno_get h hi]
    rfl
theorem badF_all {L : List Nd} (h : ∀ i, i < L.length → rightB (L.getD i nd0) L.length = true) : ∀ (f k : Nat), k + f ≤ L.length → badF L f k = none
  | 0, k, _ => rfl
  | f + 1, k, hk => by
    rw [badF, if_pos (h k (by omega))]
    exact badF_all h f (k + 1) (by omega)
theorem misF_all {L : List Nd} (h : Tr (shp L) L.length) : ∀ (f k : Nat), 0 < k → k + f ≤ L.length → misF L f k = 0
  | 0, k, _, _ => rfl
  | f + 1, k, h0, hk => by
    have : misB L k = false := by
      unfold misB
      rw [h.one k h0 (by omega)]
      simp [ord_all h (show k < L.length by omega)]
    rw [misF, this]
    exact misF_all h f (k + 1) (by omega) (by omega)
theorem shE_of {L : List Nd} (hR : Rgt L) (hT : Tr (shp L) L.length) : shE L = 0 := by
  have h0 := hR.1
  unfold shE
  rw [if_neg (by omega), badF_all hR.2 _ _ (by omega)]
  show (if misF L (L.length - 1) 1 = 0 then (0 : Int) else 70) = 0
  rw [if_pos (misF_all hT _ _ (by omega) (by omega))]
theorem spl_rn {L : List Nd} (h : shE L = 0) {n : Nd} (hs : spl n L.length = true) : spl (rcN (anF L.length (ord (shp L) L.length)) n) L.length = true := by
  have hI := cno_iso h
  have h0 := (shE_rgt h).1
  have hp : ∀ x : Int, 1 ≤ x → x < (L.length : Int) → 1 ≤ ((phi L x.toNat : Nat) : Int) ∧ ((phi L x.toNat : Nat) : Int) < (L.length : Int) := by
    intro x h1 h2
    have h3 : x.toNat < L.length := by omega
    have h4 := hI.lt _ h3
    have h5 : phi L x.toNat ≠ 0 := by
      intro e
      have := hI.inj _ 0 h3 h0 (e.trans hI.z.symm)
      omega
    omega
  simp only [spl, decide_eq_true_eq] at hs ⊢
  obtain ⟨a, b, c, d, e, f⟩ := hs
  exact ⟨a, b, c, d, hp n.lf e.1 e.2, hp n.rt f.1 f.2⟩
theorem cno_rgt {L : List Nd} (h : shE L = 0) : Rgt (cnoL L) := by
  have hR := shE_rgt h
  refine ⟨by rw [cno_len h]; exact hR.1, fun j hj => ?_⟩
  rw [cno_len h] at hj ⊢
  obtain ⟨i, hi, rfl⟩ := (cno_iso h).sur j hj
  rw [cno_get h hi]
  have hr := hR.2 i hi
  by_cases hk : (L.getD i nd0).kd = 1
  · rw [rcN_leaf h hi hk]; exact hr
  · have hs := fun (n : Nd) => spl_rn h (n := n)
    generalize L.getD i nd0 = n at *
    have e1 : (rcN (anF L.length (ord (shp L) L.length)) n).kd = n.kd := rfl
    have e2 : (rcN (anF L.length (ord (shp L) L.length)) n).th = n.th := rfl
    have e3 : (rcN (anF L.length (ord (shp L) L.length)) n).cs = n.cs := rfl
    unfold rightB at hr ⊢
    rw [e1, e2, e3]
    rw [if_neg hk] at hr ⊢
    split
    · rename_i h2
      rw [if_pos h2] at hr
      simp only [Bool.and_eq_true] at hr ⊢
      exact ⟨⟨hs n hr.1.1, hr.1.2⟩, hr.2⟩
    · rename_i h2
      rw [if_neg h2] at hr
      split
      · rename_i h3
        rw [if_pos h3] at hr
        simp only [Bool.and_eq_true] at hr ⊢
        exact ⟨⟨hs n hr.1.1, hr.1.2⟩, hr.2⟩
      · rename_i h3
        rw [if_neg h3] at hr
        exact hr
/-- Numbered anew it is a right tree. -/
theorem cno_shE {L : List Nd} (h : shE L = 0) : shE (cnoL L) = 0 := by
  refine shE_of (cno_rgt h) ?_
  rw [cno_len h]
  exact (cno_iso h).tr (shE_tr h)
end Go.Proofs.YtmkanofeencgpaaDoor
