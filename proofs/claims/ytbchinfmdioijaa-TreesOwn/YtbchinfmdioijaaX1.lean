import Derived.Test.YtbchinfmdioijaaW7
set_option linter.unusedVariables false
set_option linter.unusedSimpArgs false
namespace Go.Proofs.Ytbchinfmdioijaa
open Go.RowKit Go.Shelf
attribute [local go_sem] Oper.semAt_some
/-- What a tree adds, and its error. -/
def woE (L : List Nd) (out N : Int) (m : Nat) : Int := if shE L = 0 then (if out < 0 ∨ N ≤ out then 6 else if lackB L m then 72 else 0) else shE L
def woV (L : List Nd) (out N : Int) (xs : List Nat) : Int := if woE L out N xs.length = 0 then (L.getD (endN L xs) nd0).vl else 0
/-- Two boxes that an iterator lets alone. -/
structure Box2 (A : Nat) (w : World) (o1 : Obj) (T : Nat → Prop) (W : World) : Prop where
  b1 : W.heap[A]? = some o1
  tb : ∀ g, T g → A + 1 ≤ g
  be : Below A w W
  sz : A + 3 ≤ W.heap.size
theorem Box2.st {A : Nat} {w : World} {o1 : Obj} {T : Nat → Prop} {W B : World} (h : Box2 A w o1 T W) (hst : Stp T W B) : Box2 A w o1 (more T W B) B := by
  obtain ⟨q1, q4, q5, q6⟩ := h
  have kp : ∀ g, g < A + 1 → B.heap[g]? = W.heap[g]? := fun g hg => hst.block g (by omega) (fun h => by have := q4 g h; omega)
  refine ⟨by rw [kp _ (by omega)]; exact q1, ?_, ?_, by have := hst.size; omega⟩
  · rintro g (h | h)
    · exact q4 g h
    · omega
  · exact ⟨hst.os.trans q5.os, hst.tape.trans q5.tape, hst.output.trans q5.output, by have := hst.size; have := q5.size; omega, fun g hg => (kp g (by omega)).trans (q5.block g hg)⟩
theorem Box2.put {A : Nat} {w : World} {o1 : Obj} {T : Nat → Prop} {W : World} {r : Nat} {o' : Obj} (h : Box2 A w o1 T W) (h1 : A + 3 ≤ r) : Box2 A w o1 T (W.putObj r o') := by
  obtain ⟨q1, q4, q5, q6⟩ := h
  have kp : ∀ g, g < A + 1 → (W.putObj r o').heap[g]? = W.heap[g]? := fun g hg => World.putObj_heap_other (by omega)
  refine ⟨by rw [kp _ (by omega)]; exact q1, q4, ?_, by simpa using q6⟩
  exact ⟨q5.os, q5.tape, q5.output, by simpa using q5.size, fun g hg => (kp g (by omega)).trans (q5.block g hg)⟩
/-- The value of the last node that was come by. -/
def lastV (L : List Nd) (p : List Nat) : Int := if p = [] then 0 else (L.getD (p.getLastD 0) nd0).vl
theorem lastV_snoc (L : List Nd) (p : List Nat) (x : Nat) : lastV L (p ++ [x]) = (L.getD x nd0).vl := by unfold lastV; simp
set_option maxRecDepth 100000 in
set_option maxHeartbeats 2000000 in
theorem worth_in (n : Nat) (hn : 3 ≤ n) (a ax : Option Addr) (cap cx : Nat) (out N : Int) (L : List Nd) (xs : List Nat) (hLn : L.length ≤ 2199023255552) (hxl : xs.length ≤ 17592186044416) (hE : shE L = 0) (ho1 : 0 ≤ out) (ho2 : out < N) (hlk : lackB L xs.length = false) (w : World) (hrd : RdN w a L) (hxd : RdF w ax xs) :
    CallsIn Fence.wide n Try.prog 62 #[.agg #[.int .i64 out, .slice a L.length cap], .int .i64 N, .slice ax xs.length cx] w fun e w' => e = .returned (.tuple #[.int .i64 (L.getD (endN L xs) nd0).vl, .int .i64 0]) ∧ Keep w w' := by
  have h1 : 1 ≤ n := by omega
  have hS := fun (wx : World) (k : Keep w wx) => Shape_in (n - 1) wx a cap out L hLn (hrd.keep k)
  have hLk := fun (wx : World) (k : Keep w wx) => lacks_any a ax cap xs.length cx L hLn wx (hrd.keep k)
  rw [hE] at hS
  rw [hlk] at hLk
  refine callsIn_of_wp_marks Try.func62 rfl trivial ?_ rfl
  simp only [Try.ntmps62, List.size_toArray, List.length_cons, List.length_nil, Nat.reduceAdd, Nat.reduceSub, Array.replicate_succ, Array.replicate_zero, List.push_toArray, List.append_toArray, List.nil_append, List.cons_append]
  have k0 : Keep w (w.alloc (Obj.cells #[Value.int IntKind.i64 out, Value.slice a L.length cap] 24)) := (Keep.refl w).alloc _
  have c0 : (w.alloc (Obj.cells #[Value.int IntKind.i64 out, Value.slice a L.length cap] 24)).cell? ⟨w.heap.size, 0, none⟩ = some (.int .i64 out) := by
    rw [cell_of_row _ _ 0 _ 24 (0, 0) (heap_alloc_new w _)]; rfl
  have c1 : (w.alloc (Obj.cells #[Value.int IntKind.i64 out, Value.slice a L.length cap] 24)).cell? ⟨w.heap.size, 1, none⟩ = some (.slice a L.length cap) := by
    rw [cell_of_row _ _ 1 _ 24 (0, 0) (heap_alloc_new w _)]; rfl
  have hSz : (w.alloc (Obj.cells #[Value.int IntKind.i64 out, Value.slice a L.length cap] 24)).heap.size = w.heap.size + 1 := by simp
  have hS1 := hS _ k0
  gi_wp2_with fail
  generalize w.alloc _ = w1 at k0 c0 c1 hS1 hSz ⊢
  refine ⟨trivial, ?_⟩
  refine hS1.mono ?_
  rintro e w2 ⟨rfl, k2⟩
  have c0 := k2.cell c0
  have c1 := k2.cell c1
  have k02 := k0.trans k2
  have z2 : w.heap.size + 1 ≤ w2.heap.size := by have := k2.le; omega
  clear hS hS1 k2 hSz
  have q1 : decide (out < 0) = false := by simpa using ho1
  have q2 : ¬ out < 0 := by omega
  have q3 : ¬ N ≤ out := by omega
  gi_wp2_with fail
  refine ⟨trivial, ?_⟩
  refine (callsIn_wide.2 (hLk _ k02)).mono ?_
  rintro e w3 ⟨rfl, k3⟩
  have c1 := k3.cell c1
  have k03 := k02.trans k3
  have z3 : w.heap.size + 1 ≤ w3.heap.size := by have := k3.le; omega
  clear hLk k02 k3
  have c1A := fun o => ((Keep.refl w3).alloc o).cell c1
  gi_wp2_with (refine ⟨trivial, ?_⟩; gi_at_call 57; refine (down_in (n - 1) _ _ _ _ _ _ _).mono ?_; rintro e w' ⟨rfl, rfl⟩)
  obtain ⟨w4, hw4, kA, sA, lA, bA, xA⟩ := boxes3 w3 (Value.int IntKind.i64 0) (Value.slice a L.length cap) (Value.slice ax xs.length cx) 2 22 43
  rw [hw4]
  clear hw4 c1A
  have bA' : w4.cell? ⟨w3.heap.size + 1, 0, none⟩ = some (.slice a L.length cap) := by rw [cell_of_row _ _ 0 _ 22 (0, 0) bA]; rfl
  have xA' : w4.cell? ⟨w3.heap.size + 1 + 1, 0, none⟩ = some (.slice ax xs.length cx) := by rw [cell_of_row _ _ 0 _ 43 (0, 0) xA]; rfl
  refine wp_rangeT h1 (gf := 80) (lb := #[.pointer (some ⟨w3.heap.size + 1, 0, none⟩), .pointer (some ⟨w3.heap.size + 1 + 1, 0, none⟩)]) rfl (enters_of Try.func80 (by kernel_rfl) rfl)
    (down_seq (n - 1) (by omega) (w3.heap.size + 1) (w3.heap.size + 1 + 1) a ax cap cx L xs hLn hxl hE hlk w w4 bA' xA' (by omega) (by omega) (k03.trans kA) hrd hxd) (Below.refl _ _) (fun _ => rfl) (by omega) (fun g hg => by omega)
    (fun pre T W => Box2 w3.heap.size w3 (Obj.cells #[Value.int IntKind.i64 (lastV L (nums pre))] 2) T W)
    (fun _ _ _ => False) (fun pre T A B h hst => h.st hst) (fun pre T A r o' h h1 h2 h3 => h.put (by omega)) (fun _ _ _ _ _ h => h.elim) ?start ?a1 ?assign ?body ?done (fun _ _ _ _ h => h.elim)
  case assign =>
    intro l x W K hK
    gi_wp2
    exact hK
  case start =>
    intro W hst
    have kp : ∀ g, g < w3.heap.size + 3 → W.heap[g]? = w4.heap[g]? := fun g hg => hst.block g (by omega) (fun h => h)
    refine ⟨by rw [kp _ (by omega)]; exact lA, fun g hg => by omega, ?_, by have := hst.size; omega⟩
    exact ⟨hst.os.trans kA.os, hst.tape.trans kA.tape, hst.output.trans kA.output, by have := hst.size; have := kA.size; omega, fun g hg => (kp g (by omega)).trans (kA.block g hg)⟩
  case body =>
    rintro l pre ⟨x, hx⟩ T W hC hpl hT hsz
    have kW : Keep w3 W := hC.be
    obtain ⟨b, o, ca, cp, rfl, hnd⟩ := (hrd.keep (k03.trans kW)) x hx
    have cv := hnd.c1
    have t1 := kW.cell c1
    have t3 : W.cell? ⟨w3.heap.size, 0, none⟩ = some (.int .i64 (lastV L (nums pre))) := by rw [cell_of_row W _ 0 _ 2 (0, 0) hC.b1]; rfl
    have f3 : W.frozen? ⟨w3.heap.size, 0, none⟩ = false := frozen_of_row W _ 0 _ 2 hC.b1
    have hnum : nums (pre ++ [⟨x, hx⟩]) = nums pre ++ [x] := by simp [nums]
    have h12 : 1 ≤ n - 1 - 1 := by omega
    have hxc : (x : Int) < (L.length : Int) := by omega
    have HL : Hid (lastV L (nums (pre ++ [⟨x, hx⟩])) = (L.getD x nd0).vl) := by show _ = _; rw [hnum, lastV_snoc]
    generalize lastV L (nums pre) = V at t3
    generalize (L.getD x nd0).vl = V2 at cv HL
    have ne := neq_set W w3.heap.size 0 (.int .i64 V2)
    have nb := heap_setCell_same W w3.heap.size 0 _ 2 (.int .i64 V2) hC.b1
    clear hnd hnum
    simp only at *
    gi_wp2_with fail
    unfold postT
    refine ⟨⟨ne _ (by omega), ne _ (by omega)⟩, ⟨rfl, rfl, rfl, by simp, fun g hg h => ne g (by rcases h with h | h; omega; have := hC.tb g h; omega)⟩, ⟨?_, hC.tb, hC.be.setCell (Nat.le_refl _) _, by have := hC.sz; simp; omega⟩⟩
    rw [HL.out]
    simpa using nb
  case done =>
    rintro xs' T W hxs hC hD
    obtain ⟨l, hl, -, -, -⟩ := way_last (xs := xs) hE
    have t3 : W.cell? ⟨w3.heap.size, 0, none⟩ = some (.int .i64 (L.getD (endN L xs) nd0).vl) := by
      rw [cell_of_row W _ 0 _ 2 (0, 0) hC.b1, hxs, hl, lastV_snoc]; rfl
    obtain ⟨V, hV⟩ : ∃ V, (L.getD (endN L xs) nd0).vl = V := ⟨_, rfl⟩
    rw [hV] at t3
    replace hV : Hid _ := hV
    rw [sA] at hD ⊢
    gi_wp2_with fail
    refine ⟨by simp, .inl ⟨_, _, rfl, run_takeDeferred hD, ?_⟩⟩
    refine ⟨_, results_tmp2 rfl _ _ _, by rw [hV.out]; rfl, ?_⟩
    have hb1 : Below w.heap.size w W := k03.trans hC.be
    exact hb1.trans (belowK_b (w := w) (Nat.le_refl _) W (w3.heap.size + 3) _ _ (by omega) hD rfl rfl)
end Go.Proofs.Ytbchinfmdioijaa
