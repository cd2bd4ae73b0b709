import Derived.Test.YtbchinfmdioijaaW5
set_option linter.unusedVariables false
set_option linter.unusedSimpArgs false
namespace Go.Proofs.Ytbchinfmdioijaa
open Go.RowKit Go.Shelf
attribute [local go_sem] Oper.semAt_some
/-- Three boxes that an iterator lets alone. -/
structure Box3 (A : Nat) (w : World) (o1 o2 o3 : Obj) (T : Nat → Prop) (W : World) : Prop where
  b1 : W.heap[A]? = some o1
  b2 : W.heap[A + 1]? = some o2
  b3 : W.heap[A + 1 + 1]? = some o3
  tb : ∀ g, T g → A + 3 ≤ g
  be : Below A w W
  sz : A + 4 ≤ W.heap.size
theorem Box3.st {A : Nat} {w : World} {o1 o2 o3 : Obj} {T : Nat → Prop} {W B : World} (h : Box3 A w o1 o2 o3 T W) (hst : Stp T W B) : Box3 A w o1 o2 o3 (more T W B) B := by
  obtain ⟨q1, q2, q3, q4, q5, q6⟩ := h
  have kp : ∀ g, g < A + 3 → B.heap[g]? = W.heap[g]? := fun g hg => hst.block g (by omega) (fun h => by have := q4 g h; omega)
  refine ⟨by rw [kp _ (by omega)]; exact q1, by rw [kp _ (by omega)]; exact q2, by rw [kp _ (by omega)]; exact q3, ?_, ?_, by have := hst.size; omega⟩
  · rintro g (h | h)
    · exact q4 g h
    · omega
  · exact ⟨hst.os.trans q5.os, hst.tape.trans q5.tape, hst.output.trans q5.output, by have := hst.size; have := q5.size; omega, fun g hg => (kp g (by omega)).trans (q5.block g hg)⟩
theorem Box3.put {A : Nat} {w : World} {o1 o2 o3 : Obj} {T : Nat → Prop} {W : World} {r : Nat} {o' : Obj} (h : Box3 A w o1 o2 o3 T W) (h1 : A + 4 ≤ r) : Box3 A w o1 o2 o3 T (W.putObj r o') := by
  obtain ⟨q1, q2, q3, q4, q5, q6⟩ := h
  have kp : ∀ g, g < A + 3 → (W.putObj r o').heap[g]? = W.heap[g]? := fun g hg => World.putObj_heap_other (by omega)
  refine ⟨by rw [kp _ (by omega)]; exact q1, by rw [kp _ (by omega)]; exact q2, by rw [kp _ (by omega)]; exact q3, q4, ?_, by simpa using q6⟩
  exact ⟨q5.os, q5.tape, q5.output, by simpa using q5.size, fun g hg => (kp g (by omega)).trans (q5.block g hg)⟩
theorem takeWhile_pre {l p : List Nat} {en : Nat} (h : p ++ [en] <+: l) (hp : en ∉ p) : l.takeWhile (fun i => decide (i ≠ en)) = p := by
  obtain ⟨q, rfl⟩ := h
  rw [List.append_assoc, List.takeWhile_append_of_pos]
  · simp
  · intro i hi
    have : i ≠ en := fun e => hp (e ▸ hi)
    simpa using this
theorem takeWhile_all {l : List Nat} {en : Nat} (hp : en ∉ l) : l.takeWhile (fun i => decide (i ≠ en)) = l := by
  have h : ∀ i ∈ l, decide (i ≠ en) = true := by
    intro i hi
    have : i ≠ en := fun e => hp (e ▸ hi)
    simpa using this
  have := List.takeWhile_append_of_pos (l₂ := []) h
  simpa using this
/-- How many leaves stand ahead of one. -/
def plc (L : List Nd) (en : Nat) : Nat := (((ord (shp L) L.length).takeWhile (fun i => decide (i ≠ en))).filter (fun i => (!decide ((L.getD i nd0).kd = 2 ∨ (L.getD i nd0).kd = 3)))).length
set_option maxRecDepth 100000 in
set_option maxHeartbeats 2000000 in
theorem place_in (n : Nat) (hn : 3 ≤ n) (a : Option Addr) (cap en : Nat) (L : List Nd) (hLn : L.length ≤ 2199023255552) (hR : Rgt L) (w : World) (hrd : RdN w a L) :
    CallsIn Fence.wide n Try.prog 59 #[.slice a L.length cap, .int .i64 (en : Nat)] w fun e w' => e = .returned (.int .i64 (plc L en : Nat)) ∧ Keep w w' := by
  have h1 : 1 ≤ n := by omega
  refine callsIn_of_wp_marks Try.func59 rfl trivial ?_ rfl
  simp only [Try.ntmps59, List.size_toArray, List.length_cons, List.length_nil, Nat.reduceAdd, Nat.reduceSub, Array.replicate_succ, Array.replicate_zero, List.push_toArray, List.append_toArray, List.nil_append, List.cons_append]
  gi_wp2_with (refine ⟨trivial, ?_⟩; gi_at_call 51; refine (reached_in (n - 1) _ _ _ _).mono ?_; rintro e w' ⟨rfl, rfl⟩)
  have S4 : ∃ w4, (((w.alloc (Obj.cells #[Value.slice a L.length cap] 22)).alloc (Obj.cells #[Value.int IntKind.i64 (en : Nat)] 3)).alloc (Obj.cells #[Value.int IntKind.i64 0] 3)).alloc (Obj.cells #[Value.slice a L.length cap] 22) = w4 ∧
      Box3 w.heap.size w (Obj.cells #[Value.slice a L.length cap] 22) (Obj.cells #[Value.int IntKind.i64 (en : Nat)] 3) (Obj.cells #[Value.int IntKind.i64 ((0 : Nat) : Int)] 3) (fun g => g = w.heap.size + 3) w4 ∧ w4.heap.size = w.heap.size + 4 ∧ w4.cell? ⟨w.heap.size + 1 + 1 + 1, 0, none⟩ = some (.slice a L.length cap) := by
    obtain ⟨w3, hw3, kA, sA, lA, bA, xA⟩ := boxes3 w (Value.slice a L.length cap) (Value.int IntKind.i64 (en : Nat)) (Value.int IntKind.i64 0) 22 3 3
    rw [hw3]
    have old : ∀ g, g < w.heap.size + 3 → (w3.alloc (Obj.cells #[Value.slice a L.length cap] 22)).heap[g]? = w3.heap[g]? := fun g hg => Below.heap_alloc _ _ _ (by omega)
    refine ⟨_, rfl, ⟨(old _ (by omega)).trans lA, (old _ (by omega)).trans bA, (old _ (by omega)).trans xA, fun g hg => by omega, kA.alloc _, by simp; omega⟩, by simp [sA], ?_⟩
    have := heap_alloc_new w3 (Obj.cells #[Value.slice a L.length cap] 22)
    rw [sA] at this
    rw [cell_of_row _ _ 0 _ 22 (0, 0) this]; rfl
  obtain ⟨w4, hw4, D4, sA, bA⟩ := S4
  rw [hw4]
  clear hw4
  have rdA : RdB w.heap.size w4 a L := hrd.rdB.same (fun g hg => D4.be.block g hg)
  refine wp_rangeT h1 (gf := 79) (lb := #[.pointer (some ⟨w.heap.size + 1 + 1 + 1, 0, none⟩)]) rfl (enters_of Try.func79 (by kernel_rfl) rfl)
    (reach_seq (n - 1) (by omega) (w.heap.size + 1 + 1 + 1) w.heap.size a cap L hLn hR w4 bA (by omega) (by omega) rdA) (Below.refl _ _) (fun _ => rfl) (by omega) (fun g hg => by omega)
    (fun pre T W => Box3 w.heap.size w (Obj.cells #[Value.slice a L.length cap] 22) (Obj.cells #[Value.int IntKind.i64 (en : Nat)] 3) (Obj.cells #[Value.int IntKind.i64 ((((nums pre).filter (fun i => (!decide ((L.getD i nd0).kd = 2 ∨ (L.getD i nd0).kd = 3)))).length : Nat) : Int)] 3) T W ∧ en ∉ nums pre)
    (fun c pre W => c = .exit 0 ∧ ∃ p, nums pre = p ++ [en] ∧ en ∉ p ∧ Box3 w.heap.size w (Obj.cells #[Value.slice a L.length cap] 22) (Obj.cells #[Value.int IntKind.i64 (en : Nat)] 3) (Obj.cells #[Value.int IntKind.i64 (((p.filter (fun i => (!decide ((L.getD i nd0).kd = 2 ∨ (L.getD i nd0).kd = 3)))).length : Nat) : Int)] 3) (fun _ => False) W)
    (fun pre T A B h hst => ⟨h.1.st hst, h.2⟩) (fun pre T A r o' h h1 h2 h3 => ⟨h.1.put (by omega), h.2⟩) ?ixput ?start ?a1 ?assign ?body ?done ?stop
  case ixput =>
    rintro c pre A r o' ⟨h0, p, h1, h2, h3⟩ h4 h5 h6
    exact ⟨h0, p, h1, h2, h3.put (by omega)⟩
  case assign =>
    intro l x W K hK
    gi_wp2
    exact hK
  case start =>
    intro W hst
    have kp : ∀ g, g < w.heap.size + 4 → W.heap[g]? = w4.heap[g]? := fun g hg => hst.block g (by omega) (fun h => h)
    refine ⟨⟨by rw [kp _ (by omega)]; exact D4.b1, by rw [kp _ (by omega)]; exact D4.b2, by rw [kp _ (by omega)]; exact D4.b3, fun g hg => by omega, ?_, by have := hst.size; omega⟩, by simp⟩
    exact ⟨hst.os.trans D4.be.os, hst.tape.trans D4.be.tape, hst.output.trans D4.be.output, by have := hst.size; have := D4.be.size; omega, fun g hg => (kp g (by omega)).trans (D4.be.block g hg)⟩
  case body =>
    rintro l pre ⟨x, hx⟩ T W ⟨hC, hen⟩ hpl hT hsz
    have hbe := hC.be
    obtain ⟨b, o, rfl, hb, c0, c6, c7⟩ := (hrd.rdB.same (fun g hg => hbe.block g hg)) x hx
    have t1 : W.cell? ⟨w.heap.size, 0, none⟩ = some (.slice (some ⟨b, o, none⟩) L.length cap) := by rw [cell_of_row W _ 0 _ 22 (0, 0) hC.b1]; rfl
    have t2 : W.cell? ⟨w.heap.size + 1, 0, none⟩ = some (.int .i64 (en : Nat)) := by rw [cell_of_row W _ 0 _ 3 (0, 0) hC.b2]; rfl
    have t3 : W.cell? ⟨w.heap.size + 1 + 1, 0, none⟩ = some (.int .i64 ((((nums pre).filter (fun i => (!decide ((L.getD i nd0).kd = 2 ∨ (L.getD i nd0).kd = 3)))).length : Nat) : Int)) := by rw [cell_of_row W _ 0 _ 3 (0, 0) hC.b3]; rfl
    have f3 : W.frozen? ⟨w.heap.size + 1 + 1, 0, none⟩ = false := frozen_of_row W _ 0 _ 3 hC.b3
    have hxc : (x : Int) < (L.length : Int) := by omega
    have hin := isInner_any (L.getD x nd0).kd
    have hnum : nums (pre ++ [⟨x, hx⟩]) = nums pre ++ [x] := by simp [nums]
    have h12 : 1 ≤ n - 1 - 1 := by omega
    have hlf : ((nums pre).filter (fun i => (!decide ((L.getD i nd0).kd = 2 ∨ (L.getD i nd0).kd = 3)))).length ≤ 2199023255552 := by
      have h1 := List.length_filter_le (fun i => (!decide ((L.getD i nd0).kd = 2 ∨ (L.getD i nd0).kd = 3))) (nums pre)
      simp [nums] at h1 ⊢
      omega
    by_cases hxe : x = en
    · subst hxe
      clear hin c0 c6 c7 f3
      simp only at *
      gi_wp2_with fail
      unfold postT
      exact ⟨⟨rfl, rfl⟩, rfl, nums pre, hnum, hen, ⟨hC.b1, hC.b2, hC.b3, fun g h => h.elim, hC.be, hC.sz⟩⟩
    · have hxb : ((x : Int) == (en : Int)) = false := by rw [beq_eq_false_iff_ne]; omega
      have HEN : Hid (en ∉ nums (pre ++ [⟨x, hx⟩])) := by
        show _ ∉ _
        rw [hnum]
        intro hm
        rcases List.mem_append.1 hm with h | h
        · exact hen h
        · simp at h; omega
      obtain ⟨pv, hpv⟩ : ∃ pv, decide ((L.getD x nd0).kd = 2 ∨ (L.getD x nd0).kd = 3) = pv := ⟨_, rfl⟩
      have HF : Hid (((nums (pre ++ [⟨x, hx⟩])).filter (fun i => (!decide ((L.getD i nd0).kd = 2 ∨ (L.getD i nd0).kd = 3)))).length = ((nums pre).filter (fun i => (!decide ((L.getD i nd0).kd = 2 ∨ (L.getD i nd0).kd = 3)))).length + (if pv = true then 0 else 1)) := by
        show _ = _
        rw [hnum, List.filter_append, List.filter_cons, hpv, List.length_append]
        cases pv <;> rfl
      rw [hpv] at hin
      generalize ((nums pre).filter (fun i => (!decide ((L.getD i nd0).kd = 2 ∨ (L.getD i nd0).kd = 3)))).length = C at *
      generalize (L.getD x nd0).kd = kd at hin c0
      clear hpv hxe hnum
      simp only at *
      cases pv
      · gi_wp2_with (refine ⟨trivial, ?_⟩; gi_at_call 50; refine (CallsIn.inRound l (callsIn_wide.2 (hin _))).mono ?_; rintro e w' ⟨rfl, hw'⟩; have hw2 := hw'.symm; subst hw2)
        unfold postT
        have ne := neq_set W (w.heap.size + 1 + 1) 0 (.int .i64 ((C : Int) + 1))
        have nb := heap_setCell_same W (w.heap.size + 1 + 1) 0 _ 3 (.int .i64 ((C : Int) + 1)) hC.b3
        refine ⟨⟨ne _ (by omega), ne _ (by omega)⟩, ⟨rfl, rfl, rfl, by simp, fun g hg h => ne g (by rcases h with h | h; omega; have := hC.tb g h; omega)⟩, ⟨by rw [ne _ (by omega)]; exact hC.b1, by rw [ne _ (by omega)]; exact hC.b2, ?_, hC.tb, hC.be.setCell (by show w.heap.size ≤ w.heap.size + 1 + 1; omega) _, by have := hC.sz; simp; omega⟩, HEN.out⟩
        rw [HF.out]
        simpa using nb
      · gi_wp2_with (refine ⟨trivial, ?_⟩; gi_at_call 50; refine (CallsIn.inRound l (callsIn_wide.2 (hin _))).mono ?_; rintro e w' ⟨rfl, hw'⟩; have hw2 := hw'.symm; subst hw2)
        unfold postT
        refine ⟨⟨rfl, rfl⟩, ⟨rfl, rfl, rfl, Nat.le_refl _, fun _ _ _ => rfl⟩, ⟨hC.b1, hC.b2, ?_, hC.tb, hC.be, hC.sz⟩, HEN.out⟩
        rw [HF.out]
        simpa using hC.b3
  case done =>
    rintro xs T W hxs ⟨hC, hen⟩ hD
    have t3 : W.cell? ⟨w.heap.size + 1 + 1, 0, none⟩ = some (.int .i64 (plc L en : Nat)) := by
      rw [cell_of_row W _ 0 _ 3 (0, 0) hC.b3]
      unfold plc
      rw [hxs] at hen ⊢
      rw [takeWhile_all hen]
      rfl
    rw [sA] at hD ⊢
    gi_wp2_with fail
    refine ⟨by simp, .inl ⟨_, _, rfl, run_takeDeferred hD, ?_⟩⟩
    refine ⟨_, results_tmp rfl _ _ _, rfl, ?_⟩
    exact hC.be.trans (belowK_b (w := w) (Nat.le_refl _) W (w.heap.size + 4) _ _ (by omega) hD rfl rfl)
  case stop =>
    rintro c pre W hpre ⟨rfl, p, hp, hen, hC⟩ hD
    rw [hp] at hpre
    have t3 : W.cell? ⟨w.heap.size + 1 + 1, 0, none⟩ = some (.int .i64 (plc L en : Nat)) := by
      rw [cell_of_row W _ 0 _ 3 (0, 0) hC.b3]
      unfold plc
      rw [takeWhile_pre hpre hen]
      rfl
    rw [sA] at hD ⊢
    gi_wp2_with fail
    refine ⟨by simp, .inl ⟨_, _, rfl, run_takeDeferred hD, ?_⟩⟩
    refine ⟨_, results_tmp rfl _ _ _, rfl, ?_⟩
    exact hC.be.trans (belowK_b (w := w) (Nat.le_refl _) W (w.heap.size + 4) _ _ (by omega) hD rfl rfl)
end Go.Proofs.Ytbchinfmdioijaa
