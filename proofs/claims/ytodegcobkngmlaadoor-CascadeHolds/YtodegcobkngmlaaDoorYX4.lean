import Derived.Test.YtodegcobkngmlaaDoorProg
import Derived.Test.YtodegcobkngmlaaDoorYW4
import Derived.WalkKit
import Derived.WalkSpells
import Derived.WalkLawsBesides
import Derived.Deep.Draws
import Derived.Deep.QuietTactic
import Derived.BigQuiet
import Derived.Laws.Externs
import Derived.Laws.CopyOwn
import Derived.RangeFuncBox
import Derived.RangeFuncLeaves
import Derived.RangeFuncCalls
import Derived.RangeFuncRecord
import Derived.Below
import Derived.Shelf.Abstract
import Derived.OwnWalkIn
import Derived.TacticsInMore
import Derived.LoopNIn
import Derived.LoopIn
import Derived.Sort.LoopGhostIn
import Derived.Deep.RegionLaw
import Derived.Deep.RegionWith
import Derived.Deep.RegionHeld3
import Derived.Stop.RegionWithIn
set_option linter.unusedVariables false
set_option linter.unusedSimpArgs false
namespace Go.Proofs.YtodegcobkngmlaaDoor
open Go.RowKit Go.Shelf
attribute [local go_sem] Oper.semAt_some
/-- Three boxes that an iterator lets alone. -/
structure Box3 (A : Nat) (w : World) (o1 o2 o3 : Obj) (T : Nat → Prop) (W : World) : Prop where
  b1 : W.heap[A]? = some o1
  b2 : W.heap[A + 1]? = some o2
  b3 : W.heap[A + 1 + 1]? = some o3
  tb : ∀ g, T g → A + 3 ≤ g
  be : Below A w W
  sz : A + 4 ≤ W.heap.size
theorem Box3.st {A : Nat} {w : World} {o1 o2 o3 : Obj} {T : Nat → Prop} {W B : World} (h : Box3 A w o1 o2 o3 T W) (hst : Stp T W B) : Box3 A w o1 o2 o3 (more T W B) B := by
  obtain ⟨q1, q2, q3, q4, q5, q6⟩ := h
  have kp : ∀ g, g < A + 3 → B.heap[g]? = W.heap[g]? := fun g hg => hst.block g (by omega) (fun h => by have := q4 g h; omega)
  refine ⟨by rw [kp _ (by omega)]; exact q1, by rw [kp _ (by omega)]; exact q2, by rw [kp _ (by omega)]; exact q3, ?_, ?_, by have := hst.size; omega⟩
  · rintro g (h | h)
    · exact q4 g h
    · omega
  · exact ⟨hst.os.trans q5.os, hst.tape.trans q5.tape, hst.output.trans q5.output, by have := hst.size; have := q5.size; omega, fun g hg => (kp g (by omega)).trans (q5.block g hg)⟩
theorem Box3.put {A : Nat} {w : World} {o1 o2 o3 : Obj} {T : Nat → Prop} {W : World} {r : Nat} {o' : Obj} (h : Box3 A w o1 o2 o3 T W) (h1 : A + 4 ≤ r) : Box3 A w o1 o2 o3 T (W.putObj r o') := by
  obtain ⟨q1, q2, q3, q4, q5, q6⟩ := h
  have kp : ∀ g, g < A + 3 → (W.putObj r o').heap[g]? = W.heap[g]? := fun g hg => World.putObj_heap_other (by omega)
  refine ⟨by rw [kp _ (by omega)]; exact q1, by rw [kp _ (by omega)]; exact q2, by rw [kp _ (by omega)]; exact q3, q4, ?_, by simpa using q6⟩
  exact ⟨q5.os, q5.tape, q5.output, by simpa using q5.size, fun g hg => (kp g (by omega)).trans (q5.block g hg)⟩
theorem takeWhile_pre {l p : List Nat} {en : Nat} (h : p ++ [en] <+: l) (hp : en ∉ p) : l.takeWhile (fun i => decide (i ≠ en)) = p := by
  obtain ⟨q, rfl⟩ := h
  rw [List.append_assoc, List.takeWhile_append_of_pos]
  · simp
  · intro i hi
    have : i ≠ en := fun e => hp (e ▸ hi)
    simpa using this
theorem takeWhile_all {l : List Nat} {en : Nat} (hp : en ∉ l) : l.takeWhile (fun i => decide (i ≠ en)) = l := by
  have h : ∀ i ∈ l, decide (i ≠ en) = true := by
    intro i hi
    have : i ≠ en := fun e => hp (e ▸ hi)
    simpa using this
  have := List.takeWhile_append_of_pos (l₂ := []) h
  simpa using this
/-- How many leaves stand ahead of one. -/
def plc (L : List Nd) (en : Nat) : Nat := (((ord (shp L) L.length).takeWhile (fun i => decide (i ≠ en))).filter (fun i => (!decide ((L.getD i nd0).kd = 2 ∨ (L.getD i nd0).kd = 3)))).length
end Go.Proofs.YtodegcobkngmlaaDoor
set_option linter.unusedVariables false
set_option linter.unusedSimpArgs false
namespace Go.Proofs.YtodegcobkngmlaaDoor
open Go.RowKit Go.Shelf
/-- A vector's leaf. -/
def endN (L : List Nd) (xs : List Nat) : Nat := (way (shp L) (chs L xs) L.length).getLastD 0
theorem wyE_ok {L : List Nd} {m : Nat} (h : wyE L m = 0) : shE L = 0 ∧ lackB L m = false := by
  unfold wyE at h
  split at h
  · rename_i h0
    refine ⟨h0, ?_⟩
    cases hl : lackB L m
    · rfl
    · rw [hl] at h; cases h
  · contradiction
theorem way_last {L : List Nd} {xs : List Nat} (h : shE L = 0) : ∃ l, way (shp L) (chs L xs) L.length = l ++ [endN L xs] ∧ (shp L).K (endN L xs) = false ∧ endN L xs < L.length ∧ (way (shp L) (chs L xs) L.length).length ≤ L.length := by
  obtain ⟨e, l, h1, h2, h3, h4⟩ := way_end (shE_tr h) (chs L xs)
  have : endN L xs = e := by unfold endN; rw [h1]; simp
  rw [this]
  exact ⟨l, h1, h2, h3.lt (shE_tr h).wi, h4⟩
def lfK (L : List Nd) (xs : List Nat) : Nat := if wyE L xs.length = 0 then plc L (endN L xs) else 0
def lfV (L : List Nd) (xs : List Nat) : Int := if wyE L xs.length = 0 then (L.getD (endN L xs) nd0).vl else 0
end Go.Proofs.YtodegcobkngmlaaDoor
set_option linter.unusedVariables false
set_option linter.unusedSimpArgs false
namespace Go.Proofs.YtodegcobkngmlaaDoor
open Go.RowKit Go.Shelf
attribute [local go_sem] Oper.semAt_some
/-- What a tree adds, and its error. -/
def woE (L : List Nd) (out N : Int) (m : Nat) : Int := if shE L = 0 then (if out < 0 ∨ N ≤ out then 6 else if lackB L m then 72 else 0) else shE L
def woV (L : List Nd) (out N : Int) (xs : List Nat) : Int := if woE L out N xs.length = 0 then (L.getD (endN L xs) nd0).vl else 0
/-- Two boxes that an iterator lets alone. -/
structure Box2 (A : Nat) (w : World) (o1 : Obj) (T : Nat → Prop) (W : World) : Prop where
  b1 : W.heap[A]? = some o1
  tb : ∀ g, T g → A + 1 ≤ g
  be : Below A w W
  sz : A + 3 ≤ W.heap.size
theorem Box2.st {A : Nat} {w : World} {o1 : Obj} {T : Nat → Prop} {W B : World} (h : Box2 A w o1 T W) (hst : Stp T W B) : Box2 A w o1 (more T W B) B := by
  obtain ⟨q1, q4, q5, q6⟩ := h
  have kp : ∀ g, g < A + 1 → B.heap[g]? = W.heap[g]? := fun g hg => hst.block g (by omega) (fun h => by have := q4 g h; omega)
  refine ⟨by rw [kp _ (by omega)]; exact q1, ?_, ?_, by have := hst.size; omega⟩
  · rintro g (h | h)
    · exact q4 g h
    · omega
  · exact ⟨hst.os.trans q5.os, hst.tape.trans q5.tape, hst.output.trans q5.output, by have := hst.size; have := q5.size; omega, fun g hg => (kp g (by omega)).trans (q5.block g hg)⟩
theorem Box2.put {A : Nat} {w : World} {o1 : Obj} {T : Nat → Prop} {W : World} {r : Nat} {o' : Obj} (h : Box2 A w o1 T W) (h1 : A + 3 ≤ r) : Box2 A w o1 T (W.putObj r o') := by
  obtain ⟨q1, q4, q5, q6⟩ := h
  have kp : ∀ g, g < A + 1 → (W.putObj r o').heap[g]? = W.heap[g]? := fun g hg => World.putObj_heap_other (by omega)
  refine ⟨by rw [kp _ (by omega)]; exact q1, q4, ?_, by simpa using q6⟩
  exact ⟨q5.os, q5.tape, q5.output, by simpa using q5.size, fun g hg => (kp g (by omega)).trans (q5.block g hg)⟩
/-- The value of the last node that was come by. -/
def lastV (L : List Nd) (p : List Nat) : Int := if p = [] then 0 else (L.getD (p.getLastD 0) nd0).vl
theorem lastV_snoc (L : List Nd) (p : List Nat) (x : Nat) : lastV L (p ++ [x]) = (L.getD x nd0).vl := by unfold lastV; simp
set_option maxRecDepth 100000 in
set_option maxHeartbeats 2000000 in
theorem worth_in (n : Nat) (hn : 3 ≤ n) (a ax : Option Addr) (cap cx : Nat) (out N : Int) (L : List Nd) (xs : List Nat) (hLn : L.length ≤ 2199023255552) (hxl : xs.length ≤ 17592186044416) (hE : shE L = 0) (ho1 : 0 ≤ out) (ho2 : out < N) (hlk : lackB L xs.length = false) (w : World) (hrd : RdN w a L) (hxd : RdF w ax xs) :
    CallsIn Fence.wide n Tryd.prog 13 #[.agg #[.int .i64 out, .slice a L.length cap], .int .i64 N, .slice ax xs.length cx] w fun e w' => e = .returned (.tuple #[.int .i64 (L.getD (endN L xs) nd0).vl, .int .i64 0]) ∧ Keep w w' := by
  have h1 : 1 ≤ n := by omega
  have hS := fun (wx : World) (k : Keep w wx) => Shape_in (n - 1) wx a cap out L hLn (hrd.keep k)
  have hLk := fun (wx : World) (k : Keep w wx) => lacks_any a ax cap xs.length cx L hLn wx (hrd.keep k)
  rw [hE] at hS
  rw [hlk] at hLk
  refine callsIn_of_wp_marks Tryd.func13 rfl trivial ?_ rfl
  simp only [Tryd.ntmps13, List.size_toArray, List.length_cons, List.length_nil, Nat.reduceAdd, Nat.reduceSub, Array.replicate_succ, Array.replicate_zero, List.push_toArray, List.append_toArray, List.nil_append, List.cons_append]
  have k0 : Keep w (w.alloc (Obj.cells #[Value.int IntKind.i64 out, Value.slice a L.length cap] 46)) := (Keep.refl w).alloc _
  have c0 : (w.alloc (Obj.cells #[Value.int IntKind.i64 out, Value.slice a L.length cap] 46)).cell? ⟨w.heap.size, 0, none⟩ = some (.int .i64 out) := by
    rw [cell_of_row _ _ 0 _ 46 (0, 0) (heap_alloc_new w _)]; rfl
  have c1 : (w.alloc (Obj.cells #[Value.int IntKind.i64 out, Value.slice a L.length cap] 46)).cell? ⟨w.heap.size, 1, none⟩ = some (.slice a L.length cap) := by
    rw [cell_of_row _ _ 1 _ 46 (0, 0) (heap_alloc_new w _)]; rfl
  have hSz : (w.alloc (Obj.cells #[Value.int IntKind.i64 out, Value.slice a L.length cap] 46)).heap.size = w.heap.size + 1 := by simp
  have hS1 := hS _ k0
  gi_wp2_with fail
  generalize w.alloc _ = w1 at k0 c0 c1 hS1 hSz ⊢
  refine ⟨trivial, ?_⟩
  refine hS1.mono ?_
  rintro e w2 ⟨rfl, k2⟩
  have c0 := k2.cell c0
  have c1 := k2.cell c1
  have k02 := k0.trans k2
  have z2 : w.heap.size + 1 ≤ w2.heap.size := by have := k2.le; omega
  clear hS hS1 k2 hSz
  have q1 : decide (out < 0) = false := by simpa using ho1
  have q2 : ¬ out < 0 := by omega
  have q3 : ¬ N ≤ out := by omega
  gi_wp2_with fail
  refine ⟨trivial, ?_⟩
  refine (callsIn_wide.2 (hLk _ k02)).mono ?_
  rintro e w3 ⟨rfl, k3⟩
  have c1 := k3.cell c1
  have k03 := k02.trans k3
  have z3 : w.heap.size + 1 ≤ w3.heap.size := by have := k3.le; omega
  clear hLk k02 k3
  have c1A := fun o => ((Keep.refl w3).alloc o).cell c1
  gi_wp2_with (refine ⟨trivial, ?_⟩; gi_at_call 21; refine (down_in (n - 1) _ _ _ _ _ _ _).mono ?_; rintro e w' ⟨rfl, rfl⟩)
  obtain ⟨w4, hw4, kA, sA, lA, bA, xA⟩ := boxes3 w3 (Value.int IntKind.i64 0) (Value.slice a L.length cap) (Value.slice ax xs.length cx) 2 44 27
  rw [hw4]
  clear hw4 c1A
  have bA' : w4.cell? ⟨w3.heap.size + 1, 0, none⟩ = some (.slice a L.length cap) := by rw [cell_of_row _ _ 0 _ 44 (0, 0) bA]; rfl
  have xA' : w4.cell? ⟨w3.heap.size + 1 + 1, 0, none⟩ = some (.slice ax xs.length cx) := by rw [cell_of_row _ _ 0 _ 27 (0, 0) xA]; rfl
  refine wp_rangeT h1 (gf := 35) (lb := #[.pointer (some ⟨w3.heap.size + 1, 0, none⟩), .pointer (some ⟨w3.heap.size + 1 + 1, 0, none⟩)]) rfl (enters_of Tryd.func35 (by kernel_rfl) rfl)
    (down_seq (n - 1) (by omega) (w3.heap.size + 1) (w3.heap.size + 1 + 1) a ax cap cx L xs hLn hxl hE hlk w w4 bA' xA' (by omega) (by omega) (k03.trans kA) hrd hxd) (Below.refl _ _) (fun _ => rfl) (by omega) (fun g hg => by omega)
    (fun pre T W => Box2 w3.heap.size w3 (Obj.cells #[Value.int IntKind.i64 (lastV L (nums pre))] 2) T W)
    (fun _ _ _ => False) (fun pre T A B h hst => h.st hst) (fun pre T A r o' h h1 h2 h3 => h.put (by omega)) (fun _ _ _ _ _ h => h.elim) ?start ?a1 ?assign ?body ?done (fun _ _ _ _ h => h.elim)
  case assign =>
    intro l x W K hK
    gi_wp2
    exact hK
  case start =>
    intro W hst
    have kp : ∀ g, g < w3.heap.size + 3 → W.heap[g]? = w4.heap[g]? := fun g hg => hst.block g (by omega) (fun h => h)
    refine ⟨by rw [kp _ (by omega)]; exact lA, fun g hg => by omega, ?_, by have := hst.size; omega⟩
    exact ⟨hst.os.trans kA.os, hst.tape.trans kA.tape, hst.output.trans kA.output, by have := hst.size; have := kA.size; omega, fun g hg => (kp g (by omega)).trans (kA.block g hg)⟩
  case body =>
    rintro l pre ⟨x, hx⟩ T W hC hpl hT hsz
    have kW : Keep w3 W := hC.be
    obtain ⟨b, o, ca, cp, rfl, hnd⟩ := (hrd.keep (k03.trans kW)) x hx
    have cv := hnd.c1
    have t1 := kW.cell c1
    have t3 : W.cell? ⟨w3.heap.size, 0, none⟩ = some (.int .i64 (lastV L (nums pre))) := by rw [cell_of_row W _ 0 _ 2 (0, 0) hC.b1]; rfl
    have f3 : W.frozen? ⟨w3.heap.size, 0, none⟩ = false := frozen_of_row W _ 0 _ 2 hC.b1
    have hnum : nums (pre ++ [⟨x, hx⟩]) = nums pre ++ [x] := by simp [nums]
    have h12 : 1 ≤ n - 1 - 1 := by omega
    have hxc : (x : Int) < (L.length : Int) := by omega
    have HL : Hid (lastV L (nums (pre ++ [⟨x, hx⟩])) = (L.getD x nd0).vl) := by show _ = _; rw [hnum, lastV_snoc]
    generalize lastV L (nums pre) = V at t3
    generalize (L.getD x nd0).vl = V2 at cv HL
    have ne := neq_set W w3.heap.size 0 (.int .i64 V2)
    have nb := heap_setCell_same W w3.heap.size 0 _ 2 (.int .i64 V2) hC.b1
    clear hnd hnum
    simp only at *
    gi_wp2_with fail
    unfold postT
    refine ⟨⟨ne _ (by omega), ne _ (by omega)⟩, ⟨rfl, rfl, rfl, by simp, fun g hg h => ne g (by rcases h with h | h; omega; have := hC.tb g h; omega)⟩, ⟨?_, hC.tb, hC.be.setCell (Nat.le_refl _) _, by have := hC.sz; simp; omega⟩⟩
    rw [HL.out]
    simpa using nb
  case done =>
    rintro xs' T W hxs hC hD
    obtain ⟨l, hl, -, -, -⟩ := way_last (xs := xs) hE
    have t3 : W.cell? ⟨w3.heap.size, 0, none⟩ = some (.int .i64 (L.getD (endN L xs) nd0).vl) := by
      rw [cell_of_row W _ 0 _ 2 (0, 0) hC.b1, hxs, hl, lastV_snoc]; rfl
    obtain ⟨V, hV⟩ : ∃ V, (L.getD (endN L xs) nd0).vl = V := ⟨_, rfl⟩
    rw [hV] at t3
    replace hV : Hid _ := hV
    rw [sA] at hD ⊢
    gi_wp2_with fail
    refine ⟨by simp, .inl ⟨_, _, rfl, run_takeDeferred hD, ?_⟩⟩
    refine ⟨_, results_tmp2 rfl _ _ _, by rw [hV.out]; rfl, ?_⟩
    have hb1 : Below w.heap.size w W := k03.trans hC.be
    exact hb1.trans (belowK_b (w := w) (Nat.le_refl _) W (w3.heap.size + 3) _ _ (by omega) hD rfl rfl)
end Go.Proofs.YtodegcobkngmlaaDoor
set_option linter.unusedVariables false
set_option linter.unusedSimpArgs false
namespace Go.Proofs.YtodegcobkngmlaaDoor
open Go.RowKit Go.Shelf
attribute [local go_sem] Oper.semAt_some
set_option maxRecDepth 100000 in
set_option maxHeartbeats 2000000 in
theorem worth_err (n : Nat) (hn : 3 ≤ n) (a ax : Option Addr) (cap cx m : Nat) (out N : Int) (L : List Nd) (hLn : L.length ≤ 2199023255552) (hE : shE L ≠ 0) (w : World) (hrd : RdN w a L) :
    CallsIn Fence.wide n Tryd.prog 13 #[.agg #[.int .i64 out, .slice a L.length cap], .int .i64 N, .slice ax m cx] w fun e w' => e = .returned (.tuple #[.int .i64 0, .int .i64 (shE L)]) ∧ Keep w w' := by
  have h1 : 1 ≤ n := by omega
  have hS := fun (wx : World) (k : Keep w wx) => Shape_in (n - 1) wx a cap out L hLn (hrd.keep k)
  have hB : (shE L == 0) = false := by simpa using hE
  have hB2 : (shE L != 0) = true := by simpa using hE
  clear hE
  generalize shE L = E at hB hB2 hS ⊢
  refine callsIn_of_wp_marks Tryd.func13 rfl trivial ?_ rfl
  simp only [Tryd.ntmps13, List.size_toArray, List.length_cons, List.length_nil, Nat.reduceAdd, Nat.reduceSub, Array.replicate_succ, Array.replicate_zero, List.push_toArray, List.append_toArray, List.nil_append, List.cons_append]
  have k0 : Keep w (w.alloc (Obj.cells #[Value.int IntKind.i64 out, Value.slice a L.length cap] 46)) := (Keep.refl w).alloc _
  have c0 : (w.alloc (Obj.cells #[Value.int IntKind.i64 out, Value.slice a L.length cap] 46)).cell? ⟨w.heap.size, 0, none⟩ = some (.int .i64 out) := by
    rw [cell_of_row _ _ 0 _ 46 (0, 0) (heap_alloc_new w _)]; rfl
  have c1 : (w.alloc (Obj.cells #[Value.int IntKind.i64 out, Value.slice a L.length cap] 46)).cell? ⟨w.heap.size, 1, none⟩ = some (.slice a L.length cap) := by
    rw [cell_of_row _ _ 1 _ 46 (0, 0) (heap_alloc_new w _)]; rfl
  have hS1 := hS _ k0
  gi_wp2_with fail
  generalize w.alloc _ = w1 at k0 c0 c1 hS1 ⊢
  refine ⟨trivial, ?_⟩
  refine hS1.mono ?_
  rintro e w2 ⟨rfl, k2⟩
  have c0 := k2.cell c0
  have c1 := k2.cell c1
  have k02 := k0.trans k2
  clear hS hS1 k2
  gi_wp2_with fail
  exact ⟨_, results_tmp2 rfl _ _ _, rfl, k02⟩
set_option maxRecDepth 100000 in
set_option maxHeartbeats 2000000 in
theorem worth_out (n : Nat) (hn : 3 ≤ n) (a ax : Option Addr) (cap cx m : Nat) (out N : Int) (L : List Nd) (hLn : L.length ≤ 2199023255552) (hE : shE L = 0) (ho : out < 0 ∨ N ≤ out) (w : World) (hrd : RdN w a L) :
    CallsIn Fence.wide n Tryd.prog 13 #[.agg #[.int .i64 out, .slice a L.length cap], .int .i64 N, .slice ax m cx] w fun e w' => e = .returned (.tuple #[.int .i64 0, .int .i64 6]) ∧ Keep w w' := by
  have h1 : 1 ≤ n := by omega
  have hS := fun (wx : World) (k : Keep w wx) => Shape_in (n - 1) wx a cap out L hLn (hrd.keep k)
  rw [hE] at hS
  refine callsIn_of_wp_marks Tryd.func13 rfl trivial ?_ rfl
  simp only [Tryd.ntmps13, List.size_toArray, List.length_cons, List.length_nil, Nat.reduceAdd, Nat.reduceSub, Array.replicate_succ, Array.replicate_zero, List.push_toArray, List.append_toArray, List.nil_append, List.cons_append]
  have k0 : Keep w (w.alloc (Obj.cells #[Value.int IntKind.i64 out, Value.slice a L.length cap] 46)) := (Keep.refl w).alloc _
  have c0 : (w.alloc (Obj.cells #[Value.int IntKind.i64 out, Value.slice a L.length cap] 46)).cell? ⟨w.heap.size, 0, none⟩ = some (.int .i64 out) := by
    rw [cell_of_row _ _ 0 _ 46 (0, 0) (heap_alloc_new w _)]; rfl
  have c1 : (w.alloc (Obj.cells #[Value.int IntKind.i64 out, Value.slice a L.length cap] 46)).cell? ⟨w.heap.size, 1, none⟩ = some (.slice a L.length cap) := by
    rw [cell_of_row _ _ 1 _ 46 (0, 0) (heap_alloc_new w _)]; rfl
  have hS1 := hS _ k0
  gi_wp2_with fail
  generalize w.alloc _ = w1 at k0 c0 c1 hS1 ⊢
  refine ⟨trivial, ?_⟩
  refine hS1.mono ?_
  rintro e w2 ⟨rfl, k2⟩
  have c0 := k2.cell c0
  have c1 := k2.cell c1
  have k02 := k0.trans k2
  clear hS hS1 k2
  by_cases q : out < 0
  · have q1 : decide (out < 0) = true := by simpa using q
    gi_wp2_with fail
    exact ⟨_, results_tmp2 rfl _ _ _, rfl, k02⟩
  · have q1 : decide (out < 0) = false := by simpa using q
    have q3 : N ≤ out := by omega
    clear ho
    gi_wp2_with fail
    exact ⟨_, results_tmp2 rfl _ _ _, rfl, k02⟩
set_option maxRecDepth 100000 in
set_option maxHeartbeats 2000000 in
theorem worth_lack (n : Nat) (hn : 3 ≤ n) (a ax : Option Addr) (cap cx m : Nat) (out N : Int) (L : List Nd) (hLn : L.length ≤ 2199023255552) (hE : shE L = 0) (ho1 : 0 ≤ out) (ho2 : out < N) (hlk : lackB L m = true) (w : World) (hrd : RdN w a L) :
    CallsIn Fence.wide n Tryd.prog 13 #[.agg #[.int .i64 out, .slice a L.length cap], .int .i64 N, .slice ax m cx] w fun e w' => e = .returned (.tuple #[.int .i64 0, .int .i64 72]) ∧ Keep w w' := by
  have h1 : 1 ≤ n := by omega
  have hS := fun (wx : World) (k : Keep w wx) => Shape_in (n - 1) wx a cap out L hLn (hrd.keep k)
  have hLk := fun (wx : World) (k : Keep w wx) => lacks_any a ax cap m cx L hLn wx (hrd.keep k)
  rw [hE] at hS
  rw [hlk] at hLk
  refine callsIn_of_wp_marks Tryd.func13 rfl trivial ?_ rfl
  simp only [Tryd.ntmps13, List.size_toArray, List.length_cons, List.length_nil, Nat.reduceAdd, Nat.reduceSub, Array.replicate_succ, Array.replicate_zero, List.push_toArray, List.append_toArray, List.nil_append, List.cons_append]
  have k0 : Keep w (w.alloc (Obj.cells #[Value.int IntKind.i64 out, Value.slice a L.length cap] 46)) := (Keep.refl w).alloc _
  have c0 : (w.alloc (Obj.cells #[Value.int IntKind.i64 out, Value.slice a L.length cap] 46)).cell? ⟨w.heap.size, 0, none⟩ = some (.int .i64 out) := by
    rw [cell_of_row _ _ 0 _ 46 (0, 0) (heap_alloc_new w _)]; rfl
  have c1 : (w.alloc (Obj.cells #[Value.int IntKind.i64 out, Value.slice a L.length cap] 46)).cell? ⟨w.heap.size, 1, none⟩ = some (.slice a L.length cap) := by
    rw [cell_of_row _ _ 1 _ 46 (0, 0) (heap_alloc_new w _)]; rfl
  have hS1 := hS _ k0
  gi_wp2_with fail
  generalize w.alloc _ = w1 at k0 c0 c1 hS1 ⊢
  refine ⟨trivial, ?_⟩
  refine hS1.mono ?_
  rintro e w2 ⟨rfl, k2⟩
  have c0 := k2.cell c0
  have c1 := k2.cell c1
  have k02 := k0.trans k2
  clear hS hS1 k2
  have q1 : decide (out < 0) = false := by simpa using ho1
  have q2 : ¬ out < 0 := by omega
  have q3 : ¬ N ≤ out := by omega
  gi_wp2_with fail
  refine ⟨trivial, ?_⟩
  refine (callsIn_wide.2 (hLk _ k02)).mono ?_
  rintro e w3 ⟨rfl, k3⟩
  gi_wp2_with fail
  exact ⟨_, results_tmp2 rfl _ _ _, rfl, k02.trans k3⟩
theorem worth_any (a ax : Option Addr) (cap cx : Nat) (out N : Int) (L : List Nd) (xs : List Nat) (hLn : L.length ≤ 2199023255552) (hxl : xs.length ≤ 17592186044416) (w : World) (hrd : RdN w a L) (hxd : RdF w ax xs) :
    Calls Tryd.prog 13 #[.agg #[.int .i64 out, .slice a L.length cap], .int .i64 N, .slice ax xs.length cx] w fun e w' => e = .returned (.tuple #[.int .i64 (woV L out N xs), .int .i64 (woE L out N xs.length)]) ∧ Keep w w' := by
  by_cases hE : shE L = 0
  · by_cases ho : out < 0 ∨ N ≤ out
    · have e0 : woE L out N xs.length = 6 := by unfold woE; rw [if_pos hE, if_pos ho]
      have e1 : woV L out N xs = 0 := by unfold woV; rw [e0]; rfl
      rw [e0, e1]
      exact (callsIn_wide (n := 3)).1 (worth_out 3 (by omega) a ax cap cx xs.length out N L hLn hE ho w hrd)
    · cases hlk : lackB L xs.length
      · have e0 : woE L out N xs.length = 0 := by unfold woE; rw [if_pos hE, if_neg ho, hlk]; rfl
        have e1 : woV L out N xs = (L.getD (endN L xs) nd0).vl := by unfold woV; rw [if_pos e0]
        rw [e0, e1]
        exact (callsIn_wide (n := 3)).1 (worth_in 3 (by omega) a ax cap cx out N L xs hLn hxl hE (by omega) (by omega) hlk w hrd hxd)
      · have e0 : woE L out N xs.length = 72 := by unfold woE; rw [if_pos hE, if_neg ho, hlk]; rfl
        have e1 : woV L out N xs = 0 := by unfold woV; rw [e0]; rfl
        rw [e0, e1]
        exact (callsIn_wide (n := 3)).1 (worth_lack 3 (by omega) a ax cap cx xs.length out N L hLn hE (by omega) (by omega) hlk w hrd)
  · have e0 : woE L out N xs.length = shE L := by unfold woE; rw [if_neg hE]
    have e1 : woV L out N xs = 0 := by unfold woV; rw [if_neg (by rw [e0]; exact hE)]
    rw [e0, e1]
    exact (callsIn_wide (n := 3)).1 (worth_err 3 (by omega) a ax cap cx xs.length out N L hLn hE w hrd)
end Go.Proofs.YtodegcobkngmlaaDoor
set_option linter.unusedVariables false
set_option linter.unusedSimpArgs false
namespace Go.Proofs.YtodegcobkngmlaaDoor
open Go.RowKit Go.Shelf
/-- Whole numbers as cells. -/
def UZ (l : List Int) : List Value := l.map (fun x => Value.int .i64 x)
theorem UZ_length (l : List Int) : (UZ l).length = l.length := by simp [UZ]
theorem UZ_get (l : List Int) (j : Nat) (h : j < l.length) : (UZ l)[j]? = some (.int .i64 (l.getD j 0)) := by simp [UZ, List.getD, h]
theorem UZ_one (l : List Int) : ∀ u ∈ UZ l, u.oneCell' = true := by intro u hu; obtain ⟨_, _, rfl⟩ := List.mem_map.1 hu; rfl
theorem i2 : (Tryd.prog.info? 2).map (fun i => (i.zero, i.size, i.bytes)) = some (some (.int .i64 0), 1, 8) := by kernel_rfl
/-- A list of whole numbers with memory of its own. -/
def OwnZ (E B : Nat) (w : World) (v : Value) (l : List Int) : Prop := w.ownsRow B E 1 v l.length (UZ l)
theorem OwnZ.same {E B : Nat} {w w' : World} {v : Value} {l : List Int} (h : OwnZ E B w v l) (k : ∀ b, v.ownBlock = some b → w'.heap[b]? = w.heap[b]?) : OwnZ E B w' v l := by
  refine ⟨h.1, ?_⟩
  rcases h.2 with h2 | ⟨g, cap, cur, hv, hg, hh, r⟩
  · exact .inl h2
  · exact .inr ⟨g, cap, cur, hv, hg, by rw [k g (by rw [hv]; rfl)]; exact hh, r⟩
theorem OwnZ.block {E B : Nat} {w : World} {v : Value} {l : List Int} (h : OwnZ E B w v l) {b : Nat} (hb : v.ownBlock = some b) : B ≤ b ∧ ∃ cur, w.heap[b]? = some (.cells cur E (0, 0)) := by
  rcases h.2 with ⟨h1, _⟩ | ⟨g, cap, cur, hv, hg, hh, r⟩
  · rw [h1] at hb; cases hb
  · rw [hv] at hb
    have hb : some g = some b := hb
    simp only [Option.some.injEq] at hb
    subst hb
    exact ⟨hg, cur, hh⟩
theorem OwnZ.keep {E B : Nat} {w w' : World} {v : Value} {l : List Int} (h : OwnZ E B w v l) (k : Keep w w') : OwnZ E B w' v l :=
  h.same (fun b hb => by obtain ⟨_, cur, hh⟩ := h.block hb; exact k.block b (Array.getElem?_eq_some_iff.1 hh).1)
theorem OwnZ.mono {E B B' : Nat} {w : World} {v : Value} {l : List Int} (h : OwnZ E B w v l) (hB : B' ≤ B) : OwnZ E B' w v l := by
  refine ⟨h.1, ?_⟩
  rcases h.2 with h2 | ⟨g, cap, cur, hv, hg, r⟩
  · exact .inl h2
  · exact .inr ⟨g, cap, cur, hv, by omega, r⟩
theorem OwnZ.nil (E B : Nat) (w : World) : OwnZ E B w (.slice none 0 0) [] := ⟨rfl, .inl ⟨rfl, rfl⟩⟩
theorem OwnZ.shape {E B : Nat} {w : World} {v : Value} {l : List Int} (h : OwnZ E B w v l) : ∃ a c, v = .slice a l.length c ∧ l.length ≤ c ∧ RdI w a l := by
  rcases h.2 with ⟨h1, h2⟩ | ⟨g, cap, cur, hv, hg, hh, h1, h2, h3, h4⟩
  · exact ⟨none, 0, by rw [h1, h2], by omega, fun j hj => by omega⟩
  · refine ⟨some ⟨g, 0, none⟩, cap, hv, h1, ?_⟩
    intro j hj
    refine ⟨g, 0, rfl, ?_⟩
    rw [Nat.zero_add, cell_of_row w g j cur E (0, 0) hh, ← UZ_get l j hj, ← h4]
    simp [hj]
/-- A cell written over. -/
theorem OwnZ.set {E B : Nat} {w : World} {g c : Nat} {l : List Int} (h : OwnZ E B w (.slice (some ⟨g, 0, none⟩) l.length c) l) (j : Nat) (hj : j < l.length) (x : Int) : OwnZ E B (w.setCell ⟨g, j, none⟩ (.int .i64 x)) (.slice (some ⟨g, 0, none⟩) l.length c) (l.set j x) ∧ w.frozen? ⟨g, j, none⟩ = false := by
  rcases h.2 with ⟨h1, h2⟩ | ⟨g', cap, cur, hv, hg, hh, h1, h2, h3, h4⟩
  · cases h1
  · simp only [Value.slice.injEq, Option.some.injEq, Addr.mk.injEq, and_true, true_and] at hv
    obtain ⟨rfl, rfl⟩ := hv
    refine ⟨⟨by simp [UZ], .inr ⟨g, c, cur.setIfInBounds j (.int .i64 x), by simp, hg, heap_setCell_same w g j cur E _ hh, by simpa using h1, h2, by simpa using h3, ?_⟩⟩, frozen_of_row w g j cur E hh⟩
    rw [Array.toList_setIfInBounds]
    simp only [List.length_set, Nat.mul_one] at h4 ⊢
    rw [List.take_set, h4]
    simp [UZ, List.map_set]
/-- append(nil, l...). -/
theorem wpList_copyZ {w : World} {ops : Array Oper} {rest : List Oper} {o : Oper} {a : Act} {Q : Exit → Act → World → Prop} (hgd : o.guard = none) (s x : Operand)
    (ho : o.op = .call { callee := .builtin .append, args := #[s, x], argTypes := #[23, 23] }) (l : List Int) (ad : Addr) (c : Nat) (hs : a.eval s = .slice none 0 0)
    (hx : a.eval x = .slice (some ad) l.length c) (hr : RdI w (some ad) l) (hlen : l.length ≤ 17592186044416)
    (hK : ∀ v w1, OwnZ 2 w.heap.size w1 v l → Keep w w1 → wpList Tryd.prog ops Q rest (a.put o.dst v) w1) :
    wpList Tryd.prog ops Q (o :: rest) a w := by
  obtain ⟨i0, hi, hz0, hz1, hz2⟩ := info_parts i2
  refine wpList_append_own _ hgd s x 23 ho w.heap.size 2 i0 (.int .i64 0) 1 8 Tryd.underlying23 hi hz0 hz1 hz2 rfl (by decide) _ _ _ hs (OwnZ.nil 2 w.heap.size w) ad l.length c (UZ l) hx (by simp [UZ]) ?_ (UZ_one l) ?_ ?_ ?_ ?_
  · intro j u hj
    have hjl : j < l.length := by have := (List.getElem?_eq_some_iff.1 hj).1; simpa [UZ_length] using this
    rw [UZ_get l j hjl] at hj
    obtain ⟨b', o', e, hc⟩ := hr j hjl
    simp only [Option.some.injEq] at e
    subst e
    rw [Addr.add_lit, hc, hj]
  · simp only [maxLen, List.length_nil]; omega
  · simp only [List.length_nil]; omega
  · exact Nat.le_refl _
  · intro v' w1 h1 h2 _
    refine hK v' w1 ?_ ?_
    · unfold OwnZ; simpa [UZ] using h1
    · refine Below.grown (Keep.refl w) h2 (Nat.le_refl _) ?_
      intro k hk'
      cases hk'
set_option maxRecDepth 100000 in
theorem copyZ_any (a : Option Addr) (c : Nat) (l : List Int) (w : World) (hl : l.length ≤ 17592186044416) (hlc : l.length ≤ c) (hr : RdI w a l) :
    Calls Tryd.prog 12 #[.slice a l.length c] w fun e w' => ∃ v, e = .returned v ∧ OwnZ 2 w.heap.size w' v l ∧ Keep w w' := by
  rcases a with _ | ad
  · obtain rfl : l = [] := by
      by_cases h : l = []
      · exact h
      · obtain ⟨b, o, e, -⟩ := hr 0 (List.length_pos_iff.2 h); cases e
    go_enter Tryd.func12, Tryd.ntmps12
    go_wp2_with fail
    go_ret
    exact ⟨_, rfl, OwnZ.nil _ _ _, Keep.refl _⟩
  · go_enter Tryd.func12, Tryd.ntmps12
    go_wp2_with (at_builtin; refine wpList_copyZ rfl _ _ rfl l ad c ?_ ?_ hr hl ?_; rotate_left 2; intro v w1 h1 k1)
    go_ret
    exact ⟨_, rfl, h1, k1⟩
    all_goals rfl
/-- append(nil, l...). -/
theorem wpList_copyN {w : World} {ops : Array Oper} {rest : List Oper} {o : Oper} {a : Act} {Q : Exit → Act → World → Prop} (hgd : o.guard = none) (s x : Operand)
    (ho : o.op = .call { callee := .builtin .append, args := #[s, x], argTypes := #[65, 65] }) (l : List Int) (ad : Addr) (c : Nat) (hs : a.eval s = .slice none 0 0)
    (hx : a.eval x = .slice (some ad) l.length c) (hr : RdI w (some ad) l) (hlen : l.length ≤ 17592186044416)
    (hK : ∀ v w1, OwnZ 3 w.heap.size w1 v l → Keep w w1 → wpList Tryd.prog ops Q rest (a.put o.dst v) w1) :
    wpList Tryd.prog ops Q (o :: rest) a w := by
  obtain ⟨i0, hi, hz0, hz1, hz2⟩ := info_parts i3
  refine wpList_append_own _ hgd s x 65 ho w.heap.size 3 i0 (.int .i64 0) 1 8 Tryd.underlying65 hi hz0 hz1 hz2 rfl (by decide) _ _ _ hs (OwnZ.nil 3 w.heap.size w) ad l.length c (UZ l) hx (by simp [UZ]) ?_ (UZ_one l) ?_ ?_ ?_ ?_
  · intro j u hj
    have hjl : j < l.length := by have := (List.getElem?_eq_some_iff.1 hj).1; simpa [UZ_length] using this
    rw [UZ_get l j hjl] at hj
    obtain ⟨b', o', e, hc⟩ := hr j hjl
    simp only [Option.some.injEq] at e
    subst e
    rw [Addr.add_lit, hc, hj]
  · simp only [maxLen, List.length_nil]; omega
  · simp only [List.length_nil]; omega
  · exact Nat.le_refl _
  · intro v' w1 h1 h2 _
    refine hK v' w1 ?_ ?_
    · unfold OwnZ; simpa [UZ] using h1
    · refine Below.grown (Keep.refl w) h2 (Nat.le_refl _) ?_
      intro k hk'
      cases hk'
end Go.Proofs.YtodegcobkngmlaaDoor
set_option linter.unusedVariables false
set_option linter.unusedSimpArgs false
namespace Go.Proofs.YtodegcobkngmlaaDoor
open Go.RowKit Go.Shelf
/-- Trees that can be read. -/
def RdT (w : World) (a : Option Addr) (ts : List (Int × List Nd)) : Prop :=
  ∀ j, j < ts.length → ∃ b o na nc, a = some ⟨b, o, none⟩ ∧ w.cell? ⟨b, o + j * 2, none⟩ = some (.int .i64 (ts.getD j (0, [])).1) ∧ w.cell? ⟨b, o + j * 2 + 1, none⟩ = some (.slice na (ts.getD j (0, [])).2.length nc) ∧ RdN w na (ts.getD j (0, [])).2 ∧ (ts.getD j (0, [])).2.length ≤ nc ∧ (ts.getD j (0, [])).2.length ≤ 2199023255552 ∧ (-9223372036854775808 ≤ (ts.getD j (0, [])).1 ∧ (ts.getD j (0, [])).1 ≤ 9223372036854775807)
theorem RdT.keep {w w' : World} {a : Option Addr} {ts : List (Int × List Nd)} (h : RdT w a ts) (k : Keep w w') : RdT w' a ts := by
  intro j hj
  obtain ⟨b, o, na, nc, e, h1, h2, h3, h4⟩ := h j hj
  exact ⟨b, o, na, nc, e, k.cell h1, k.cell h2, h3.keep k, h4⟩
/-- What trees add up to, each for its output. -/
def scF (N : Int) (xs : List Nat) : List (Int × List Nd) → List Int → List Int × Int
  | [], s => (s, 0)
  | t :: ts, s => if woE t.2 t.1 N xs.length = 0 then scF N xs ts (s.set t.1.toNat (wrap64 (s.getD t.1.toNat 0 + woV t.2 t.1 N xs))) else ([], woE t.2 t.1 N xs.length)
def scS (F : Nat) (N : Int) (base : List Int) (ts : List (Int × List Nd)) (xs : List Nat) : List Int × Int :=
  if N < 1 ∨ (base.length : Int) ≠ N then ([], 6) else if xs.length ≠ F then ([], 72) else scF N xs ts base
theorem woE_ok {L : List Nd} {out N : Int} {m : Nat} (h : woE L out N m = 0) : shE L = 0 ∧ 0 ≤ out ∧ out < N ∧ lackB L m = false := by
  unfold woE at h
  split at h
  · rename_i h0
    split at h
    · cases h
    · rename_i h1
      refine ⟨h0, by omega, by omega, ?_⟩
      cases hl : lackB L m
      · rfl
      · rw [hl] at h; cases h
  · contradiction
theorem drop_one {α : Type} (l : List α) (k : Nat) (d : α) (h : k < l.length) : l.drop k = l.getD k d :: l.drop (k + 1) := by
  rw [List.drop_eq_getElem_cons h]; simp [List.getD, h]
/-- An ensemble as a value. -/
def ens (nm : ByteArray) (fa : Option Addr) (F cf : Nat) (N : Int) (ba : Option Addr) (bl cb : Nat) (ta : Option Addr) (tl ct : Nat) : Value := .agg #[.string nm, .slice fa F cf, .int .i64 N, .slice ba bl cb, .slice ta tl ct]
set_option maxRecDepth 100000 in
set_option maxHeartbeats 1000000 in
theorem Score_any (nm : ByteArray) (fa : Option Addr) (F cf : Nat) (N : Int) (ba : Option Addr) (base : List Int) (cb : Nat) (ta : Option Addr) (ts : List (Int × List Nd)) (ct : Nat) (ax : Option Addr) (xs : List Nat) (cx : Nat) (w : World)
    (hb : RdI w ba base) (hbc : base.length ≤ cb) (hbl : base.length ≤ 17592186044416) (ht : RdT w ta ts) (htl : ts.length ≤ 17592186044416) (hx : RdF w ax xs) (hxl : xs.length ≤ 17592186044416) (hF : F ≤ 17592186044416) :
    Calls Tryd.prog 6 #[ens nm fa F cf N ba base.length cb ta ts.length ct, .slice ax xs.length cx] w fun e w' => ∃ v, e = .returned (.tuple #[v, .int .i64 (scS F N base ts xs).2]) ∧ OwnZ 2 w.heap.size w' v (scS F N base ts xs).1 ∧ Keep w w' := by
  unfold ens
  have k0 : Keep w (w.alloc (Obj.cells #[Value.string nm, Value.slice fa F cf, Value.int IntKind.i64 N, Value.slice ba base.length cb, Value.slice ta ts.length ct] 26)) := (Keep.refl w).alloc _
  by_cases h1 : N < 1
  · have HR : Hid (scS F N base ts xs = ([], 6)) := by show _ = _; unfold scS; rw [if_pos (.inl h1)]
    have h2 : decide (N < 1) = true := by simpa using h1
    go_enter Tryd.func6, Tryd.ntmps6
    go_wp2_with fail
    go_ret2
    rw [HR.out]
    exact ⟨_, rfl, OwnZ.nil _ _ _, k0⟩
  · have h2 : decide (N < 1) = false := by simpa using h1
    by_cases h3 : (base.length : Int) ≠ N
    · have HR : Hid (scS F N base ts xs = ([], 6)) := by show _ = _; unfold scS; rw [if_pos (.inr h3)]
      have h4 : ((base.length : Int) == N) = false := by simpa using h3
      have h5 : ((base.length : Int) != N) = true := by simpa using h3
      clear h3
      go_enter Tryd.func6, Tryd.ntmps6
      go_wp2_with fail
      go_ret2
      rw [HR.out]
      exact ⟨_, rfl, OwnZ.nil _ _ _, k0⟩
    · have h3' : (base.length : Int) = N := by simpa using h3
      subst h3'
      clear h3
      by_cases h4 : xs.length ≠ F
      · have HR : Hid (scS F base.length base ts xs = ([], 72)) := by show _ = _; unfold scS; rw [if_neg (by omega), if_pos h4]
        have h5 : ((xs.length : Int) == (F : Int)) = false := by rw [beq_eq_false_iff_ne]; omega
        have h6 : ((xs.length : Int) != (F : Int)) = true := by simp; omega
        clear h4
        go_enter Tryd.func6, Tryd.ntmps6
        go_wp2_with fail
        go_ret2
        rw [HR.out]
        exact ⟨_, rfl, OwnZ.nil _ _ _, k0⟩
      · have h4' : xs.length = F := by omega
        subst h4'
        clear h4 hF
        have HR : Hid (scS xs.length base.length base ts xs = scF base.length xs ts base) := by show _ = _; unfold scS; rw [if_neg (by omega), if_neg (by simp)]
        have hC := fun (wx : World) (k : Keep w wx) => copyZ_any ba cb base wx hbl hbc (hb.keep k)
        obtain ⟨w1, hw1⟩ : ∃ w1, w.alloc (Obj.cells #[Value.string nm, Value.slice fa xs.length cf, Value.int IntKind.i64 base.length, Value.slice ba base.length cb, Value.slice ta ts.length ct] 26) = w1 := ⟨_, rfl⟩
        have cN : w1.cell? ⟨w.heap.size, 2, none⟩ = some (.int .i64 (base.length : Nat)) := by rw [← hw1, cell_of_row _ _ 2 _ 26 (0, 0) (heap_alloc_new w _)]; rfl
        have cT : w1.cell? ⟨w.heap.size, 4, none⟩ = some (.slice ta ts.length ct) := by rw [← hw1, cell_of_row _ _ 4 _ 26 (0, 0) (heap_alloc_new w _)]; rfl
        replace hw1 : Hid _ := hw1
        go_enter Tryd.func6, Tryd.ntmps6
        go_wp2_with fail
        rw [hw1.out]
        rw [hw1.out] at k0
        refine (hC _ k0).mono ?_
        rintro e w2 ⟨v, rfl, hO, k2⟩
        have cN := k2.cell cN
        have cT := k2.cell cT
        have k02 := k0.trans k2
        have kb := k0.le
        have hO := hO.mono kb
        obtain ⟨av, cv, rfl, hcv, hrv⟩ := hO.shape
        have hbx : w2.heap[w.heap.size]? = some (Obj.cells #[Value.string nm, Value.slice fa xs.length cf, Value.int IntKind.i64 base.length, Value.slice ba base.length cb, Value.slice ta ts.length ct] 26 (0, 0)) := by
          rw [k2.block _ (by rw [← hw1.out]; simp), ← hw1.out]; exact heap_alloc_new w _
        obtain ⟨b0, o0, ea, -⟩ := hrv 0 (by omega)
        subst ea
        obtain ⟨g, ea⟩ : ∃ g, (⟨b0, o0, none⟩ : Addr) = ⟨g, 0, none⟩ := by
          rcases hO.2 with ⟨h, _⟩ | ⟨g, cap, cur, hv, _⟩
          · cases h
          · simp only [Value.slice.injEq, Option.some.injEq] at hv
            exact ⟨g, hv.1⟩
        rw [ea] at hO ⊢
        have hz : w.heap.size < w2.heap.size := (Array.getElem?_eq_some_iff.1 hbx).1
        clear hC hw1 k0 k2 h2 hrv ea cN
        go_wp2_with fail
        clear cT
        go_loopw [34] (fun iv wr => ∃ (k : Nat) (s : List Int), k ≤ ts.length ∧ iv = .int .i64 k ∧ s.length = base.length ∧ OwnZ 2 w.heap.size wr (.slice (some ⟨g, 0, none⟩) base.length cv) s ∧ Keep w wr ∧ wr.heap[w.heap.size]? = some (Obj.cells #[Value.string nm, Value.slice fa xs.length cf, Value.int IntKind.i64 base.length, Value.slice ba base.length cb, Value.slice ta ts.length ct] 26 (0, 0)) ∧ Hid (scF base.length xs ts base = scF base.length xs (ts.drop k) s)) (fun iv _ => ts.length - (intOf iv).toNat)
        case atStart => exact ⟨0, base, by omega, rfl, rfl, hO, k02, hbx, rfl⟩
        case round =>
          obtain ⟨k, s, hk, rfl, hsl, hO, kw, hbx, hsc⟩ := hrel
          clear k02
          by_cases hkl : k < ts.length
          · have hkc : (k : Int) < (ts.length : Int) := by omega
            obtain ⟨b, o, na, nc, rfl, d0, d1, dn, dc, dl, df⟩ := (ht.keep kw) k hkl
            have hW := fun (wx : World) (kx : Keep wr wx) => worth_any na ax nc cx (ts.getD k (0, [])).1 (base.length : Nat) (ts.getD k (0, [])).2 xs dl hxl wx (dn.keep kx) ((hx.keep kw).keep kx)
            have hst : scF base.length xs (ts.drop k) s = if woE (ts.getD k (0, [])).2 (ts.getD k (0, [])).1 base.length xs.length = 0 then scF base.length xs (ts.drop (k + 1)) (s.set (ts.getD k (0, [])).1.toNat (wrap64 (s.getD (ts.getD k (0, [])).1.toNat 0 + woV (ts.getD k (0, [])).2 (ts.getD k (0, [])).1 base.length xs))) else ([], woE (ts.getD k (0, [])).2 (ts.getD k (0, [])).1 base.length xs.length) := by
              rw [drop_one ts k (0, []) hkl, scF]
            have cN : wr.cell? ⟨w.heap.size, 2, none⟩ = some (.int .i64 (base.length : Nat)) := by rw [cell_of_row _ _ 2 _ 26 (0, 0) hbx]; rfl
            have hwo := @woE_ok (ts.getD k (0, [])).2 (ts.getD k (0, [])).1 (base.length : Nat) xs.length
            generalize hE : woE (ts.getD k (0, [])).2 (ts.getD k (0, [])).1 base.length xs.length = E at hW hst hwo
            generalize hV : woV (ts.getD k (0, [])).2 (ts.getD k (0, [])).1 base.length xs = V at hW hst
            generalize (ts.getD k (0, [])).1 = ot at *
            generalize (ts.getD k (0, [])).2 = L at *
            clear hE hV
            have kx : Keep wr (wr.alloc (Obj.cells #[Value.int IntKind.i64 ot, Value.slice na L.length nc] 46)) := (Keep.refl wr).alloc _
            have cN' := kx.cell cN
            have tb0 : (wr.alloc (Obj.cells #[Value.int IntKind.i64 ot, Value.slice na L.length nc] 46)).cell? ⟨wr.heap.size, 0, none⟩ = some (.int .i64 ot) := by rw [cell_of_row _ _ 0 _ 46 (0, 0) (heap_alloc_new wr _)]; rfl
            have hWx := hW _ kx
            clear hW
            by_cases hE0 : E = 0
            · subst hE0
              obtain ⟨-, hot0, hot1, -⟩ := hwo rfl
              obtain ⟨u, rfl⟩ := Int.eq_ofNat_of_zero_le hot0
              rw [if_pos rfl] at hst
              have hub : u < base.length := by omega
              clear hwo hot0 hot1
              go_wp2_with fail
              generalize wr.alloc _ = w4 at kx tb0 hWx ⊢
              refine hWx.mono ?_
              rintro e w5 ⟨rfl, k5⟩
              have tb5 := k5.cell tb0
              have k45 := kx.trans k5
              have hO5 := hO.keep k45
              have hbx5 : w5.heap[w.heap.size]? = _ := (k45.block _ (Array.getElem?_eq_some_iff.1 hbx).1).trans hbx
              have kw5 := kw.trans k45
              clear hWx kx tb0 k5 k45 cN cN' d0 d1 dn
              obtain ⟨hgB, cur, hgc⟩ := hO5.block (b := g) rfl
              have hgne : g ≠ w.heap.size := by
                intro e
                rw [e, hbx5] at hgc
                simp at hgc
              obtain ⟨_, _, he, _, hrd5⟩ := hO5.shape
              simp only [Value.slice.injEq, Option.some.injEq] at he
              obtain ⟨rfl, -, -⟩ := he
              obtain ⟨b', o', eb, hcu⟩ := hrd5 u (by omega)
              simp only [Option.some.injEq, Addr.mk.injEq, and_true] at eb
              obtain ⟨rfl, rfl⟩ := eb
              rw [← hsl] at hO5
              obtain ⟨hset, hfz⟩ := hO5.set u (by omega) (wrap64 (s.getD u 0 + V))
              rw [Nat.zero_add] at hcu
              generalize hsu : s.getD u 0 = su at hcu hset
              rw [show (u : Int).toNat = u from rfl, hsu] at hst
              replace hst : Hid _ := hst
              have hub' : (u : Int) < (base.length : Int) := by omega
              clear hrd5 hO hO5 hsu
              rw [hsl] at hset
              go_wp2_with fail
              refine ⟨⟨k + 1, s.set u (wrap64 (su + V)), by omega, by go_num, by simp [hsl], hset, kw5.setCell hgB _, ?_, ?_⟩, by simp [intOf]; omega⟩
              · rw [neq_set w5 g u _ w.heap.size (fun e => hgne e.symm)]; exact hbx5
              · show _ = _
                rw [hsc.out, hst.out]
            · have hB : (E == 0) = false := by simpa using hE0
              have hB2 : (E != 0) = true := by simpa using hE0
              have HF : Hid (scF base.length xs ts base = ([], E)) := by show _ = _; rw [hsc.out, hst, if_neg hE0]
              clear hst hwo hsc hE0
              go_wp2_with fail
              generalize wr.alloc _ = w4 at kx tb0 hWx ⊢
              refine hWx.mono ?_
              rintro e w5 ⟨rfl, k5⟩
              go_wp2_with fail
              go_ret2
              rw [HR.out, HF.out]
              exact ⟨_, rfl, OwnZ.nil _ _ _, kw.trans (kx.trans k5)⟩
          · have hkc : ¬ (k : Int) < (ts.length : Int) := by omega
            have HF : Hid (scF base.length xs ts base = (s, 0)) := by show _ = _; rw [hsc.out, List.drop_eq_nil_of_le (by omega)]; rfl
            clear hsc
            go_wp2_with fail
            go_ret2
            rw [HR.out, HF.out]
            exact ⟨_, rfl, hO, kw⟩
end Go.Proofs.YtodegcobkngmlaaDoor
