import Derived.Test.YtbchinfmdioijaaU1
import Derived.Stop.RegionWithIn
set_option linter.unusedVariables false
set_option linter.unusedSimpArgs false
namespace Go.Proofs.Ytbchinfmdioijaa
open Go.RowKit Go.Shelf
attribute [local go_sem] Oper.semAt_some
set_option maxRecDepth 100000 in
set_option maxHeartbeats 2000000 in
theorem chosenL_in (n : Nat) (hn : 3 ≤ n) (a : Option Addr) (cap : Nat) (out : Int) (L : List Nd) (hLn : L.length ≤ 2199023255552) (hE : shE L = 0) (w : World) (hrd : RdN w a L) :
    CallsIn Fence.wide n Try.prog 48 #[.agg #[.int .i64 out, .slice a L.length cap], .func (.func 49) #[] #[]] w fun e w' => ∃ v, e = .returned (.tuple #[v, .int .i64 0]) ∧ OwnI w' v ((ord (shp L) L.length).filter (fun i => (!decide ((L.getD i nd0).kd = 2 ∨ (L.getD i nd0).kd = 3)))) ∧ (∀ b, v.ownBlock = some b → w.heap.size ≤ b) ∧ Below w.heap.size w w' := by
  have hR := shE_rgt hE
  have h1 : 1 ≤ n := by omega
  have hS := fun (wx : World) (k : Keep w wx) => Shape_in (n - 1) wx a cap out L hLn (hrd.keep k)
  rw [hE] at hS
  refine callsIn_of_wp_marks Try.func48 rfl trivial ?_ rfl
  simp only [Try.ntmps48, List.size_toArray, List.length_cons, List.length_nil, Nat.reduceAdd, Nat.reduceSub, Array.replicate_succ, Array.replicate_zero, List.push_toArray, List.append_toArray, List.nil_append, List.cons_append]
  have k0 : Keep w ((w.alloc (Obj.cells #[Value.int IntKind.i64 out, Value.slice a L.length cap] 24)).alloc (Obj.cells #[Value.func (Fn.func 49) #[] #[]] 76)) := ((Keep.refl w).alloc _).alloc _
  have c1 : ((w.alloc (Obj.cells #[Value.int IntKind.i64 out, Value.slice a L.length cap] 24)).alloc (Obj.cells #[Value.func (Fn.func 49) #[] #[]] 76)).cell? ⟨w.heap.size, 1, none⟩ = some (.slice a L.length cap) := by
    rw [cell_of_row _ _ 1 _ 24 (0, 0) ((Below.heap_alloc _ _ _ (by simp)).trans (heap_alloc_new w _))]; rfl
  have c2 : ((w.alloc (Obj.cells #[Value.int IntKind.i64 out, Value.slice a L.length cap] 24)).alloc (Obj.cells #[Value.func (Fn.func 49) #[] #[]] 76)).cell? ⟨w.heap.size + 1, 0, none⟩ = some (Value.func (Fn.func 49) #[] #[]) := by
    have := heap_alloc_new (w.alloc (Obj.cells #[Value.int IntKind.i64 out, Value.slice a L.length cap] 24)) (Obj.cells #[Value.func (Fn.func 49) #[] #[]] 76)
    rw [World.size_alloc] at this
    rw [cell_of_row _ _ 0 _ 76 (0, 0) this]; rfl
  have hSz : ((w.alloc (Obj.cells #[Value.int IntKind.i64 out, Value.slice a L.length cap] 24)).alloc (Obj.cells #[Value.func (Fn.func 49) #[] #[]] 76)).heap.size = w.heap.size + 2 := by simp
  have hS1 := hS _ k0
  gi_wp2_with fail
  generalize (w.alloc _).alloc _ = w1 at k0 c1 c2 hS1 hSz ⊢
  refine ⟨trivial, ?_⟩
  refine hS1.mono ?_
  rintro e w2 ⟨rfl, k2⟩
  have c1 := k2.cell c1
  have c2 := k2.cell c2
  have k02 := k0.trans k2
  have z2 : w.heap.size + 2 ≤ w2.heap.size := by have := k2.le; omega
  clear hS hS1 k2 hSz
  have c1A := ((Keep.refl w2).alloc (Obj.cells #[Value.slice none 0 0] 29)).cell c1
  gi_wp2_with (refine ⟨trivial, ?_⟩; gi_at_call 51; refine (reached_in (n - 1) _ _ _ _).mono ?_; rintro e w' ⟨rfl, rfl⟩)
  have kA : Below w2.heap.size w2 ((w2.alloc (Obj.cells #[Value.slice none 0 0] 29)).alloc (Obj.cells #[Value.slice a L.length cap] 22)) := ((Below.refl _ w2).alloc (Nat.le_refl _) _).alloc (by simp) _
  have sA : ((w2.alloc (Obj.cells #[Value.slice none 0 0] 29)).alloc (Obj.cells #[Value.slice a L.length cap] 22)).heap.size = w2.heap.size + 2 := by simp
  have bA : ((w2.alloc (Obj.cells #[Value.slice none 0 0] 29)).alloc (Obj.cells #[Value.slice a L.length cap] 22)).cell? ⟨w2.heap.size + 1, 0, none⟩ = some (.slice a L.length cap) := by
    have := heap_alloc_new (w2.alloc (Obj.cells #[Value.slice none 0 0] 29)) (Obj.cells #[Value.slice a L.length cap] 22)
    rw [World.size_alloc] at this
    rw [cell_of_row _ _ 0 _ 22 (0, 0) this]; rfl
  have lA : ((w2.alloc (Obj.cells #[Value.slice none 0 0] 29)).alloc (Obj.cells #[Value.slice a L.length cap] 22)).heap[w2.heap.size]? = some (Obj.cells #[Value.slice none 0 0] 29 (0, 0)) := (Below.heap_alloc _ _ _ (by simp)).trans (heap_alloc_new w2 _)
  have rdA : RdB w.heap.size ((w2.alloc (Obj.cells #[Value.slice none 0 0] 29)).alloc (Obj.cells #[Value.slice a L.length cap] 22)) a L := hrd.rdB.same (fun g hg => (kA.block g (by omega)).trans (k02.block g hg))
  generalize (w2.alloc (Obj.cells #[Value.slice none 0 0] 29)).alloc (Obj.cells #[Value.slice a L.length cap] 22) = w3 at *
  clear c1A
  refine wp_rangeT h1 (gf := 79) (lb := #[.pointer (some ⟨w2.heap.size + 1, 0, none⟩)]) rfl (enters_of Try.func79 (by kernel_rfl) rfl)
    (reach_seq (n - 1) (by omega) (w2.heap.size + 1) w.heap.size a cap L hLn hR w3 bA (by omega) (by omega) rdA) (Below.refl _ _) (fun _ => rfl) (by omega) (fun g hg => by omega)
    (fun pre T W => Col w2.heap.size (w2.heap.size + 1) w3 ((nums pre).filter (fun i => (!decide ((L.getD i nd0).kd = 2 ∨ (L.getD i nd0).kd = 3)))) T W)
    (fun _ _ _ => False) (fun pre T A B h hst => h.st (by omega) hst) (fun pre T A r o' h h1 h2 h3 => h.put (by omega) (by omega) (by omega)) (fun _ _ _ _ _ h => h.elim) ?start (fun x => { tmps := #[Value.agg #[Value.int IntKind.i64 out, Value.slice a L.length cap], Value.func (Fn.func 49) #[] #[], Value.pointer (some ⟨w.heap.size, 0, none⟩), Value.pointer (some ⟨w.heap.size + 1, 0, none⟩), Value.slice none 0 0, Value.int IntKind.i64 0, Value.int IntKind.i64 0, Value.int IntKind.i64 (shI L : Nat), Value.pointer (some ⟨w2.heap.size, 0, none⟩), Value.int .i64 ((x.val : Nat) : Int), Value.tuple #[Value.int IntKind.i64 0, Value.int IntKind.i64 (shI L : Nat)], Value.agg #[Value.int IntKind.i64 out, Value.slice a L.length cap], Value.tuple #[Value.int IntKind.i64 0, Value.int IntKind.i64 (shI L : Nat)], Value.int IntKind.i64 0, Value.int IntKind.i64 (shI L : Nat), Value.int IntKind.i64 0, Value.bool false, undef, Value.pointer (some ⟨w.heap.size, 1, none⟩), Value.slice a L.length cap, Value.func (Fn.func 79) #[] #[Value.pointer (some ⟨w2.heap.size + 1, 0, none⟩)], Value.int .i64 ((x.val : Nat) : Int), undef, undef, undef, undef, undef, undef, undef, undef, undef, undef, undef, undef, undef], defers := [] }) ?assign ?body ?done (fun _ _ _ _ h => h.elim)
  case start =>
    intro W hst
    have kp : ∀ g, g < w2.heap.size + 2 → W.heap[g]? = w3.heap[g]? := fun g hg => hst.block g (by omega) (fun h => h)
    refine ⟨⟨.slice none 0 0, by rw [kp _ (by omega)]; exact lA, OwnI.nil _, fun b hb => by cases hb⟩, fun g hg => by have := hst.size; omega, ?_, by have := hst.size; omega⟩
    exact ⟨hst.os, hst.tape, hst.output, by have := hst.size; omega, fun g hg => kp g (by omega)⟩
  case assign =>
    intro l x W K hK
    gi_wp2
    exact hK
  case body =>
    rintro l pre ⟨x, hx⟩ T W hC hpl hT hsz
    have hbe := hC.be
    obtain ⟨v, q1, q2, q3⟩ := hC.box
    obtain ⟨b, o, rfl, hb, c0, c6, c7⟩ := (rdA.same (fun g hg => hbe.block g (by omega))) x hx
    have t1 : W.cell? ⟨w.heap.size, 1, none⟩ = some (.slice (some ⟨b, o, none⟩) L.length cap) := by
      rw [World.cell?_of_block (a := ⟨w.heap.size, 1, none⟩) ((hbe.block w.heap.size (by omega)).trans (kA.block _ (by omega)))]; exact c1
    have t2 : W.cell? ⟨w.heap.size + 1, 0, none⟩ = some (Value.func (Fn.func 49) #[] #[]) := by
      rw [World.cell?_of_block (a := ⟨w.heap.size + 1, 0, none⟩) ((hbe.block (w.heap.size + 1) (by omega)).trans (kA.block _ (by omega)))]; exact c2
    have t3 : W.cell? ⟨w2.heap.size, 0, none⟩ = some v := by rw [cell_of_row W _ 0 _ 29 (0, 0) q1]; rfl
    have hxc : (x : Int) < (L.length : Int) := by omega
    have hin := isLeaf_any (L.getD x nd0).kd
    have hnum : nums (pre ++ [⟨x, hx⟩]) = nums pre ++ [x] := by simp [nums]
    have h12 : 1 ≤ n - 1 - 1 := by omega
    have hlf : ((nums pre).filter (fun i => (!decide ((L.getD i nd0).kd = 2 ∨ (L.getD i nd0).kd = 3)))).length + 1 ≤ 17592186044416 := by
      have h1 := List.length_filter_le (fun i => (!decide ((L.getD i nd0).kd = 2 ∨ (L.getD i nd0).kd = 3))) (nums pre)
      simp [nums] at h1 ⊢
      omega
    obtain ⟨pv, hpv⟩ : ∃ pv, (!decide ((L.getD x nd0).kd = 2 ∨ (L.getD x nd0).kd = 3)) = pv := ⟨_, rfl⟩
    rw [hpv] at hin
    generalize (L.getD x nd0).kd = kd at hin c0
    simp only at *
    gi_wp2_with fail
    refine wpIn_mono (Q := fun e a' w' => e = .normal ∧ a' = { tmps := #[Value.agg #[Value.int IntKind.i64 out, Value.slice (some ⟨b, o, none⟩) L.length cap], Value.func (Fn.func 49) #[] #[], Value.pointer (some ⟨w.heap.size, 0, none⟩), Value.pointer (some ⟨w.heap.size + 1, 0, none⟩), Value.slice none 0 0, Value.int IntKind.i64 0, Value.int IntKind.i64 0, Value.int IntKind.i64 (shI L : Nat), Value.pointer (some ⟨w2.heap.size, 0, none⟩), Value.int .i64 (x : Nat), Value.tuple #[Value.int IntKind.i64 0, Value.int IntKind.i64 (shI L : Nat)], Value.agg #[Value.int IntKind.i64 out, Value.slice (some ⟨b, o, none⟩) L.length cap], Value.tuple #[Value.int IntKind.i64 0, Value.int IntKind.i64 (shI L : Nat)], Value.int IntKind.i64 0, Value.int IntKind.i64 (shI L : Nat), Value.int IntKind.i64 0, Value.bool false, undef, Value.pointer (some ⟨w.heap.size, 1, none⟩), Value.slice (some ⟨b, o, none⟩) L.length cap, Value.func (Fn.func 79) #[] #[Value.pointer (some ⟨w2.heap.size + 1, 0, none⟩)], Value.int .i64 (x : Nat), Value.func (Fn.func 49) #[] #[], Value.pointer (some ⟨w.heap.size, 1, none⟩), Value.slice (some ⟨b, o, none⟩) L.length cap, Value.int .i64 (x : Nat), Value.pointer (some ⟨b, o + x * 8, none⟩), Value.pointer (some ⟨b, o + x * 8, none⟩), Value.int IntKind.u8 (kd : Nat), Value.bool pv, undef, undef, undef, undef, undef], defers := [] } ∧ w' = W.drew) ?_ ?_
    · gi_region_with (refine ⟨trivial, ?_⟩; gi_at_call 49; refine (CallsIn.inRound l (callsIn_wide.2 (hin _))).mono ?_; rintro e w' ⟨rfl, rfl⟩)
      all_goals exact ⟨rfl, rfl, rfl⟩
    · rintro e a' w' ⟨rfl, rfl, rfl⟩
      rename_i K hK
      refine hK _ _ ?_
      clear hK
      have HP : Hid ((!decide ((L.getD x nd0).kd = 2 ∨ (L.getD x nd0).kd = 3)) = pv) := hpv
      clear hpv
      have hC' : Col w2.heap.size (w2.heap.size + 1) w3 ((nums pre).filter (fun i => (!decide ((L.getD i nd0).kd = 2 ∨ (L.getD i nd0).kd = 3)))) T W.drew := ⟨⟨v, q1, q2, q3⟩, hC.tb, ⟨hbe.os, hbe.tape, hbe.output, hbe.size, hbe.block⟩, hC.sz⟩
      have q2' : OwnI W.drew v ((nums pre).filter (fun i => (!decide ((L.getD i nd0).kd = 2 ∨ (L.getD i nd0).kd = 3)))) := q2
      have t3' : W.drew.cell? ⟨w2.heap.size, 0, none⟩ = some v := t3
      have HF : Hid ((nums (pre ++ [⟨x, hx⟩])).filter (fun i => (!decide ((L.getD i nd0).kd = 2 ∨ (L.getD i nd0).kd = 3))) = (nums pre).filter (fun i => (!decide ((L.getD i nd0).kd = 2 ∨ (L.getD i nd0).kd = 3))) ++ (if pv = true then [x] else [])) := by
        show _ = _
        rw [hnum, List.filter_append, List.filter_cons, HP.out]
        cases pv <;> rfl
      cases pv
      · gi_wp2_with fail
        unfold postT
        refine ⟨⟨rfl, rfl⟩, ⟨rfl, rfl, rfl, Nat.le_refl _, fun _ _ _ => rfl⟩, ?_⟩
        show Col _ _ _ _ _ _
        rw [HF.out]
        simpa using hC'
      · generalize hfl : (nums pre).filter (fun i => (!decide ((L.getD i nd0).kd = 2 ∨ (L.getD i nd0).kd = 3))) = fl at hC' q2' hlf HF
        gi_wp2_with (gi_at_builtin; refine wpListIn_appI _ rfl _ _ rfl fl [x] v rfl (World.ownsRow.alloc q2' _) ⟨W.drew.heap.size, 0, none⟩ 1 1 rfl rfl (by simp) ?_ hlf ?_)
        · intro j u hj
          simpa [UI] using hj
        · intro v' w4 ho hgr hsep
          obtain ⟨r1, r2, r3, r4, r5⟩ := Col.app (by omega) hC' (by show w2.heap.size + 1 + 3 ≤ W.heap.size; omega) q1 q3 ho hgr hsep
          obtain ⟨av', cv', rfl, hcv'⟩ := ho.shape
          rw [show (fl ++ [x]).length = fl.length + 1 by simp] at r1 r2
          clear ho hgr hsep
          gi_wp2_with fail
          unfold postT
          refine ⟨⟨r2 _ ?_ ?_ ?_, r2 _ ?_ ?_ ?_⟩, ⟨r1.be.os.trans hbe.os.symm, r1.be.tape.trans hbe.tape.symm, r1.be.output.trans hbe.output.symm, by simp; exact r5, fun g hg h => r2 g hg ?_ ?_⟩, ?_⟩
          all_goals first | omega | (show _ < W.heap.size; omega) | (intro e; have := (q3 _ e).2; omega) | skip
          · intro e
            rcases h with h | h
            · omega
            · have := (hC.tb g h).1; omega
          · intro e
            have := q3 g e
            rcases h with h | h
            · omega
            · exact this.1 h
          · show Col _ _ _ _ _ _
            rw [HF.out]
            exact r1
  case done =>
    rintro xs T W hxs hC hD
    rw [hxs] at hC
    obtain ⟨v, q1, q2, q3⟩ := hC.box
    have t3 : W.cell? ⟨w2.heap.size, 0, none⟩ = some v := by rw [cell_of_row W _ 0 _ 29 (0, 0) q1]; rfl
    rw [sA] at hD ⊢
    gi_wp2_with fail
    refine ⟨by simp, .inl ⟨_, _, rfl, run_takeDeferred hD, ?_⟩⟩
    refine ⟨_, results_tmp2 rfl _ _ _, v, rfl, q2.same (fun b hb => World.putObj_heap_other (by have := (q3 b hb).2; omega)), fun b hb => by have := (q3 b hb).2; omega, ?_⟩
    have hb1 : Below w.heap.size w W := Below.trans (show Below w.heap.size w w2 from k02) ((Below.mono kA k02.size).trans (Below.mono hC.be (by omega)))
    exact hb1.trans (belowK_b (w := w) (Nat.le_refl _) W (w2.heap.size + 2) _ _ (by omega) hD rfl rfl)
end Go.Proofs.Ytbchinfmdioijaa
