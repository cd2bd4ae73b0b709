import Derived.Test.YtaogjiffnebnkaaProg
import Derived.Test.YtaogjiffnebnkaaKYU1
import Derived.WalkKit
import Derived.WalkSpells
import Derived.WalkLawsBesides
import Derived.Deep.Draws
import Derived.Deep.QuietTactic
import Derived.BigQuiet
import Derived.Laws.Externs
import Derived.Laws.CopyOwn
import Derived.RangeFuncBox
import Derived.RangeFuncLeaves
import Derived.RangeFuncCalls
import Derived.RangeFuncRecord
import Derived.Below
import Derived.Shelf.Abstract
import Derived.OwnWalkIn
import Derived.TacticsInMore
import Derived.LoopNIn
import Derived.LoopIn
import Derived.Sort.LoopGhostIn
import Derived.Deep.RegionLaw
import Derived.Deep.RegionWith
import Derived.Deep.RegionHeld3
import Derived.Stop.RegionWithIn
import Derived.Test.YtaogjiffnebnkaaKYT5
import Derived.Test.YtaogjiffnebnkaaKYMM
import Derived.Test.YtaogjiffnebnkaaKM2
set_option linter.unusedVariables false
set_option linter.unusedSimpArgs false
namespace Go.Proofs.Ytaogjiffnebnkaa.Mk
open Go.RowKit Go.Shelf
attribute [local go_sem] Oper.semAt_some
set_option maxRecDepth 100000 in
set_option maxHeartbeats 2000000 in
theorem chosenL_in (n : Nat) (hn : 3 ≤ n) (a : Option Addr) (cap : Nat) (out : Int) (L : List Nd) (hLn : L.length ≤ 2199023255552) (hE : shE L = 0) (w : World) (hrd : RdN w a L) :
    CallsIn Fence.wide n Try.prog 92 #[.agg #[.int .i64 out, .slice a L.length cap], .func (.func 93) #[] #[]] w fun e w' => ∃ v, e = .returned (.tuple #[v, .int .i64 0]) ∧ OwnI w' v ((ord (shp L) L.length).filter (fun i => (!decide ((L.getD i nd0).kd = 2 ∨ (L.getD i nd0).kd = 3)))) ∧ (∀ b, v.ownBlock = some b → w.heap.size ≤ b) ∧ Below w.heap.size w w' := by
  have hR := shE_rgt hE
  have h1 : 1 ≤ n := by omega
  have hS := fun (wx : World) (k : Keep w wx) => Shape_in (n - 1) wx a cap out L hLn (hrd.keep k)
  rw [hE] at hS
  refine callsIn_of_wp_marks Try.func92 rfl trivial ?_ rfl
  simp only [Try.ntmps92, List.size_toArray, List.length_cons, List.length_nil, Nat.reduceAdd, Nat.reduceSub, Array.replicate_succ, Array.replicate_zero, List.push_toArray, List.append_toArray, List.nil_append, List.cons_append]
  have k0 : Keep w ((w.alloc (Obj.cells #[Value.int IntKind.i64 out, Value.slice a L.length cap] 54)).alloc (Obj.cells #[Value.func (Fn.func 93) #[] #[]] 144)) := ((Keep.refl w).alloc _).alloc _
  have c1 : ((w.alloc (Obj.cells #[Value.int IntKind.i64 out, Value.slice a L.length cap] 54)).alloc (Obj.cells #[Value.func (Fn.func 93) #[] #[]] 144)).cell? ⟨w.heap.size, 1, none⟩ = some (.slice a L.length cap) := by
    rw [cell_of_row _ _ 1 _ 54 (0, 0) ((Below.heap_alloc _ _ _ (by simp)).trans (heap_alloc_new w _))]; rfl
  have c2 : ((w.alloc (Obj.cells #[Value.int IntKind.i64 out, Value.slice a L.length cap] 54)).alloc (Obj.cells #[Value.func (Fn.func 93) #[] #[]] 144)).cell? ⟨w.heap.size + 1, 0, none⟩ = some (Value.func (Fn.func 93) #[] #[]) := by
    have := heap_alloc_new (w.alloc (Obj.cells #[Value.int IntKind.i64 out, Value.slice a L.length cap] 54)) (Obj.cells #[Value.func (Fn.func 93) #[] #[]] 144)
    rw [World.size_alloc] at this
    rw [cell_of_row _ _ 0 _ 144 (0, 0) this]; rfl
  have hSz : ((w.alloc (Obj.cells #[Value.int IntKind.i64 out, Value.slice a L.length cap] 54)).alloc (Obj.cells #[Value.func (Fn.func 93) #[] #[]] 144)).heap.size = w.heap.size + 2 := by simp
  have hS1 := hS _ k0
  gi_wp2_with fail
  generalize (w.alloc _).alloc _ = w1 at k0 c1 c2 hS1 hSz ⊢
  refine ⟨trivial, ?_⟩
  refine hS1.mono ?_
  rintro e w2 ⟨rfl, k2⟩
  have c1 := k2.cell c1
  have c2 := k2.cell c2
  have k02 := k0.trans k2
  have z2 : w.heap.size + 2 ≤ w2.heap.size := by have := k2.le; omega
  clear hS hS1 k2 hSz
  have c1A := ((Keep.refl w2).alloc (Obj.cells #[Value.slice none 0 0] 55)).cell c1
  gi_wp2_with (refine ⟨trivial, ?_⟩; gi_at_call 111; refine (reached_in (n - 1) _ _ _ _).mono ?_; rintro e w' ⟨rfl, rfl⟩)
  have kA : Below w2.heap.size w2 ((w2.alloc (Obj.cells #[Value.slice none 0 0] 55)).alloc (Obj.cells #[Value.slice a L.length cap] 52)) := ((Below.refl _ w2).alloc (Nat.le_refl _) _).alloc (by simp) _
  have sA : ((w2.alloc (Obj.cells #[Value.slice none 0 0] 55)).alloc (Obj.cells #[Value.slice a L.length cap] 52)).heap.size = w2.heap.size + 2 := by simp
  have bA : ((w2.alloc (Obj.cells #[Value.slice none 0 0] 55)).alloc (Obj.cells #[Value.slice a L.length cap] 52)).cell? ⟨w2.heap.size + 1, 0, none⟩ = some (.slice a L.length cap) := by
    have := heap_alloc_new (w2.alloc (Obj.cells #[Value.slice none 0 0] 55)) (Obj.cells #[Value.slice a L.length cap] 52)
    rw [World.size_alloc] at this
    rw [cell_of_row _ _ 0 _ 52 (0, 0) this]; rfl
  have lA : ((w2.alloc (Obj.cells #[Value.slice none 0 0] 55)).alloc (Obj.cells #[Value.slice a L.length cap] 52)).heap[w2.heap.size]? = some (Obj.cells #[Value.slice none 0 0] 55 (0, 0)) := (Below.heap_alloc _ _ _ (by simp)).trans (heap_alloc_new w2 _)
  have rdA : RdB w.heap.size ((w2.alloc (Obj.cells #[Value.slice none 0 0] 55)).alloc (Obj.cells #[Value.slice a L.length cap] 52)) a L := hrd.rdB.same (fun g hg => (kA.block g (by omega)).trans (k02.block g hg))
  generalize (w2.alloc (Obj.cells #[Value.slice none 0 0] 55)).alloc (Obj.cells #[Value.slice a L.length cap] 52) = w3 at *
  clear c1A
  refine wp_rangeT h1 (gf := 122) (lb := #[.pointer (some ⟨w2.heap.size + 1, 0, none⟩)]) rfl (enters_of Try.func122 (by kernel_rfl) rfl)
    (reach_seq (n - 1) (by omega) (w2.heap.size + 1) w.heap.size a cap L hLn hR w3 bA (by omega) (by omega) rdA) (Below.refl _ _) (fun _ => rfl) (by omega) (fun g hg => by omega)
    (fun pre T W => Col w2.heap.size (w2.heap.size + 1) w3 ((nums pre).filter (fun i => (!decide ((L.getD i nd0).kd = 2 ∨ (L.getD i nd0).kd = 3)))) T W)
    (fun _ _ _ => False) (fun pre T A B h hst => h.st (by omega) hst) (fun pre T A r o' h h1 h2 h3 => h.put (by omega) (by omega) (by omega)) (fun _ _ _ _ _ h => h.elim) ?start (fun x => { tmps := #[Value.agg #[Value.int IntKind.i64 out, Value.slice a L.length cap], Value.func (Fn.func 93) #[] #[], Value.pointer (some ⟨w.heap.size, 0, none⟩), Value.pointer (some ⟨w.heap.size + 1, 0, none⟩), Value.slice none 0 0, Value.int IntKind.i64 0, Value.int IntKind.i64 0, Value.int IntKind.i64 (shI L : Nat), Value.pointer (some ⟨w2.heap.size, 0, none⟩), Value.int .i64 ((x.val : Nat) : Int), Value.tuple #[Value.int IntKind.i64 0, Value.int IntKind.i64 (shI L : Nat)], Value.agg #[Value.int IntKind.i64 out, Value.slice a L.length cap], Value.tuple #[Value.int IntKind.i64 0, Value.int IntKind.i64 (shI L : Nat)], Value.int IntKind.i64 0, Value.int IntKind.i64 (shI L : Nat), Value.int IntKind.i64 0, Value.bool false, undef, Value.pointer (some ⟨w.heap.size, 1, none⟩), Value.slice a L.length cap, Value.func (Fn.func 122) #[] #[Value.pointer (some ⟨w2.heap.size + 1, 0, none⟩)], Value.int .i64 ((x.val : Nat) : Int), undef, undef, undef, undef, undef, undef, undef, undef, undef, undef, undef, undef, undef], defers := [] }) ?assign ?body ?done (fun _ _ _ _ h => h.elim)
  case start =>
    intro W hst
    have kp : ∀ g, g < w2.heap.size + 2 → W.heap[g]? = w3.heap[g]? := fun g hg => hst.block g (by omega) (fun h => h)
    refine ⟨⟨.slice none 0 0, by rw [kp _ (by omega)]; exact lA, OwnI.nil _, fun b hb => by cases hb⟩, fun g hg => by have := hst.size; omega, ?_, by have := hst.size; omega⟩
    exact ⟨hst.os, hst.tape, hst.output, by have := hst.size; omega, fun g hg => kp g (by omega)⟩
  case assign =>
    intro l x W K hK
    gi_wp2
    exact hK
  case body =>
    rintro l pre ⟨x, hx⟩ T W hC hpl hT hsz
    have hbe := hC.be
    obtain ⟨v, q1, q2, q3⟩ := hC.box
    obtain ⟨b, o, rfl, hb, c0, c6, c7⟩ := (rdA.same (fun g hg => hbe.block g (by omega))) x hx
    have t1 : W.cell? ⟨w.heap.size, 1, none⟩ = some (.slice (some ⟨b, o, none⟩) L.length cap) := by
      rw [World.cell?_of_block (a := ⟨w.heap.size, 1, none⟩) ((hbe.block w.heap.size (by omega)).trans (kA.block _ (by omega)))]; exact c1
    have t2 : W.cell? ⟨w.heap.size + 1, 0, none⟩ = some (Value.func (Fn.func 93) #[] #[]) := by
      rw [World.cell?_of_block (a := ⟨w.heap.size + 1, 0, none⟩) ((hbe.block (w.heap.size + 1) (by omega)).trans (kA.block _ (by omega)))]; exact c2
    have t3 : W.cell? ⟨w2.heap.size, 0, none⟩ = some v := by rw [cell_of_row W _ 0 _ 55 (0, 0) q1]; rfl
    have hxc : (x : Int) < (L.length : Int) := by omega
    have hin := isLeaf_any (L.getD x nd0).kd
    have hnum : nums (pre ++ [⟨x, hx⟩]) = nums pre ++ [x] := by simp [nums]
    have h12 : 1 ≤ n - 1 - 1 := by omega
    have hlf : ((nums pre).filter (fun i => (!decide ((L.getD i nd0).kd = 2 ∨ (L.getD i nd0).kd = 3)))).length + 1 ≤ 17592186044416 := by
      have h1 := List.length_filter_le (fun i => (!decide ((L.getD i nd0).kd = 2 ∨ (L.getD i nd0).kd = 3))) (nums pre)
      simp [nums] at h1 ⊢
      omega
    obtain ⟨pv, hpv⟩ : ∃ pv, (!decide ((L.getD x nd0).kd = 2 ∨ (L.getD x nd0).kd = 3)) = pv := ⟨_, rfl⟩
    rw [hpv] at hin
    generalize (L.getD x nd0).kd = kd at hin c0
    simp only at *
    gi_wp2_with fail
    refine wpIn_mono (Q := fun e a' w' => e = .normal ∧ a' = { tmps := #[Value.agg #[Value.int IntKind.i64 out, Value.slice (some ⟨b, o, none⟩) L.length cap], Value.func (Fn.func 93) #[] #[], Value.pointer (some ⟨w.heap.size, 0, none⟩), Value.pointer (some ⟨w.heap.size + 1, 0, none⟩), Value.slice none 0 0, Value.int IntKind.i64 0, Value.int IntKind.i64 0, Value.int IntKind.i64 (shI L : Nat), Value.pointer (some ⟨w2.heap.size, 0, none⟩), Value.int .i64 (x : Nat), Value.tuple #[Value.int IntKind.i64 0, Value.int IntKind.i64 (shI L : Nat)], Value.agg #[Value.int IntKind.i64 out, Value.slice (some ⟨b, o, none⟩) L.length cap], Value.tuple #[Value.int IntKind.i64 0, Value.int IntKind.i64 (shI L : Nat)], Value.int IntKind.i64 0, Value.int IntKind.i64 (shI L : Nat), Value.int IntKind.i64 0, Value.bool false, undef, Value.pointer (some ⟨w.heap.size, 1, none⟩), Value.slice (some ⟨b, o, none⟩) L.length cap, Value.func (Fn.func 122) #[] #[Value.pointer (some ⟨w2.heap.size + 1, 0, none⟩)], Value.int .i64 (x : Nat), Value.func (Fn.func 93) #[] #[], Value.pointer (some ⟨w.heap.size, 1, none⟩), Value.slice (some ⟨b, o, none⟩) L.length cap, Value.int .i64 (x : Nat), Value.pointer (some ⟨b, o + x * 8, none⟩), Value.pointer (some ⟨b, o + x * 8, none⟩), Value.int IntKind.u8 (kd : Nat), Value.bool pv, undef, undef, undef, undef, undef], defers := [] } ∧ w' = W.drew) ?_ ?_
    · gi_region_with (refine ⟨trivial, ?_⟩; gi_at_call 93; refine (CallsIn.inRound l (callsIn_wide.2 (hin _))).mono ?_; rintro e w' ⟨rfl, rfl⟩)
      all_goals exact ⟨rfl, rfl, rfl⟩
    · rintro e a' w' ⟨rfl, rfl, rfl⟩
      rename_i K hK
      refine hK _ _ ?_
      clear hK
      have HP : Hid ((!decide ((L.getD x nd0).kd = 2 ∨ (L.getD x nd0).kd = 3)) = pv) := hpv
      clear hpv
      have hC' : Col w2.heap.size (w2.heap.size + 1) w3 ((nums pre).filter (fun i => (!decide ((L.getD i nd0).kd = 2 ∨ (L.getD i nd0).kd = 3)))) T W.drew := ⟨⟨v, q1, q2, q3⟩, hC.tb, ⟨hbe.os, hbe.tape, hbe.output, hbe.size, hbe.block⟩, hC.sz⟩
      have q2' : OwnI W.drew v ((nums pre).filter (fun i => (!decide ((L.getD i nd0).kd = 2 ∨ (L.getD i nd0).kd = 3)))) := q2
      have t3' : W.drew.cell? ⟨w2.heap.size, 0, none⟩ = some v := t3
      have HF : Hid ((nums (pre ++ [⟨x, hx⟩])).filter (fun i => (!decide ((L.getD i nd0).kd = 2 ∨ (L.getD i nd0).kd = 3))) = (nums pre).filter (fun i => (!decide ((L.getD i nd0).kd = 2 ∨ (L.getD i nd0).kd = 3))) ++ (if pv = true then [x] else [])) := by
        show _ = _
        rw [hnum, List.filter_append, List.filter_cons, HP.out]
        cases pv <;> rfl
      cases pv
      · gi_wp2_with fail
        unfold postT
        refine ⟨⟨rfl, rfl⟩, ⟨rfl, rfl, rfl, Nat.le_refl _, fun _ _ _ => rfl⟩, ?_⟩
        show Col _ _ _ _ _ _
        rw [HF.out]
        simpa using hC'
      · generalize hfl : (nums pre).filter (fun i => (!decide ((L.getD i nd0).kd = 2 ∨ (L.getD i nd0).kd = 3))) = fl at hC' q2' hlf HF
        gi_wp2_with (gi_at_builtin; refine wpListIn_appI _ rfl _ _ rfl fl [x] v rfl (World.ownsRow.alloc q2' _) ⟨W.drew.heap.size, 0, none⟩ 1 1 rfl rfl (by simp) ?_ hlf ?_)
        · intro j u hj
          simpa [UI] using hj
        · intro v' w4 ho hgr hsep
          obtain ⟨r1, r2, r3, r4, r5⟩ := Col.app (by omega) hC' (by show w2.heap.size + 1 + 3 ≤ W.heap.size; omega) q1 q3 ho hgr hsep
          obtain ⟨av', cv', rfl, hcv'⟩ := ho.shape
          rw [show (fl ++ [x]).length = fl.length + 1 by simp] at r1 r2
          clear ho hgr hsep
          gi_wp2_with fail
          unfold postT
          refine ⟨⟨r2 _ ?_ ?_ ?_, r2 _ ?_ ?_ ?_⟩, ⟨r1.be.os.trans hbe.os.symm, r1.be.tape.trans hbe.tape.symm, r1.be.output.trans hbe.output.symm, by simp; exact r5, fun g hg h => r2 g hg ?_ ?_⟩, ?_⟩
          all_goals first | omega | (show _ < W.heap.size; omega) | (intro e; have := (q3 _ e).2; omega) | skip
          · intro e
            rcases h with h | h
            · omega
            · have := (hC.tb g h).1; omega
          · intro e
            have := q3 g e
            rcases h with h | h
            · omega
            · exact this.1 h
          · show Col _ _ _ _ _ _
            rw [HF.out]
            exact r1
  case done =>
    rintro xs T W hxs hC hD
    rw [hxs] at hC
    obtain ⟨v, q1, q2, q3⟩ := hC.box
    have t3 : W.cell? ⟨w2.heap.size, 0, none⟩ = some v := by rw [cell_of_row W _ 0 _ 55 (0, 0) q1]; rfl
    rw [sA] at hD ⊢
    gi_wp2_with fail
    refine ⟨by simp, .inl ⟨_, _, rfl, run_takeDeferred hD, ?_⟩⟩
    refine ⟨_, results_tmp2 rfl _ _ _, v, rfl, q2.same (fun b hb => World.putObj_heap_other (by have := (q3 b hb).2; omega)), fun b hb => by have := (q3 b hb).2; omega, ?_⟩
    have hb1 : Below w.heap.size w W := Below.trans (show Below w.heap.size w w2 from k02) ((Below.mono kA k02.size).trans (Below.mono hC.be (by omega)))
    exact hb1.trans (belowK_b (w := w) (Nat.le_refl _) W (w2.heap.size + 2) _ _ (by omega) hD rfl rfl)
end Go.Proofs.Ytaogjiffnebnkaa.Mk
set_option linter.unusedVariables false
set_option linter.unusedSimpArgs false
namespace Go.Proofs.Ytaogjiffnebnkaa.Mk
open Go.RowKit Go.Shelf
attribute [local go_sem] Oper.semAt_some
set_option maxRecDepth 100000 in
set_option maxHeartbeats 2000000 in
theorem chosen_err (F n : Nat) (hn : 3 ≤ n) (a : Option Addr) (cap : Nat) (out : Int) (L : List Nd) (hLn : L.length ≤ 2199023255552) (hE : shE L ≠ 0) (w : World) (hrd : RdN w a L) :
    CallsIn Fence.wide n Try.prog 92 #[.agg #[.int .i64 out, .slice a L.length cap], .func (.func F) #[] #[]] w fun e w' => e = .returned (.tuple #[.slice none 0 0, .int .i64 (shE L)]) ∧ Keep w w' := by
  have h1 : 1 ≤ n := by omega
  have hS := fun (wx : World) (k : Keep w wx) => Shape_in (n - 1) wx a cap out L hLn (hrd.keep k)
  refine callsIn_of_wp_marks Try.func92 rfl trivial ?_ rfl
  simp only [Try.ntmps92, List.size_toArray, List.length_cons, List.length_nil, Nat.reduceAdd, Nat.reduceSub, Array.replicate_succ, Array.replicate_zero, List.push_toArray, List.append_toArray, List.nil_append, List.cons_append]
  have k0 : Keep w ((w.alloc (Obj.cells #[Value.int IntKind.i64 out, Value.slice a L.length cap] 54)).alloc (Obj.cells #[Value.func (Fn.func F) #[] #[]] 144)) := ((Keep.refl w).alloc _).alloc _
  have hS1 := hS _ k0
  have hB : (shE L == 0) = false := by simpa using hE
  have hB2 : (shE L != 0) = true := by simpa using hE
  clear hE
  generalize shE L = E at hB hB2 hS1 ⊢
  gi_wp2_with fail
  generalize (w.alloc _).alloc _ = w1 at k0 hS1 ⊢
  refine ⟨trivial, ?_⟩
  refine hS1.mono ?_
  rintro e w2 ⟨rfl, k2⟩
  gi_wp2_with fail
  exact ⟨_, results_tmp2 rfl _ _ _, rfl, k0.trans k2⟩
/-- The leaves from left to right, and the other nodes. -/
def lvs (L : List Nd) : List Nat := if shE L = 0 then (ord (shp L) L.length).filter (fun i => (!decide ((L.getD i nd0).kd = 2 ∨ (L.getD i nd0).kd = 3))) else []
/-- A list of one's own, and an error. -/
def LstE (w : World) (l : List Nat) (E : Int) (e : Ending) (w' : World) : Prop := ∃ v, e = .returned (.tuple #[v, .int .i64 E]) ∧ OwnI w' v l ∧ (∀ b, v.ownBlock = some b → w.heap.size ≤ b) ∧ Keep w w'
theorem chosenL_any (a : Option Addr) (cap : Nat) (out : Int) (L : List Nd) (hLn : L.length ≤ 2199023255552) (w : World) (hrd : RdN w a L) :
    Calls Try.prog 92 #[.agg #[.int .i64 out, .slice a L.length cap], .func (.func 93) #[] #[]] w (LstE w (lvs L) (shE L)) := by
  by_cases hE : shE L = 0
  · refine ((callsIn_wide (n := 3)).1 (chosenL_in 3 (by omega) a cap out L hLn hE w hrd)).mono ?_
    rintro e w' ⟨v, rfl, h1, h2, h3⟩
    refine ⟨v, by rw [hE], ?_, h2, h3⟩
    unfold lvs; rw [if_pos hE]; exact h1
  · refine ((callsIn_wide (n := 3)).1 (chosen_err 93 3 (by omega) a cap out L hLn hE w hrd)).mono ?_
    rintro e w' ⟨rfl, h3⟩
    refine ⟨_, rfl, ?_, fun b hb => (by cases hb), h3⟩
    unfold lvs; rw [if_neg hE]; exact OwnI.nil _
theorem LstE.up {w w1 : World} {l : List Nat} {E : Int} {e : Ending} {w' : World} (k : Keep w w1) (h : LstE w1 l E e w') : LstE w l E e w' := by
  obtain ⟨v, h1, h2, h3, h4⟩ := h
  exact ⟨v, h1, h2, fun b hb => Nat.le_trans k.le (h3 b hb), k.trans h4⟩
set_option maxRecDepth 100000 in
theorem Leaves_any (a : Option Addr) (cap : Nat) (out : Int) (L : List Nd) (hLn : L.length ≤ 2199023255552) (w : World) (hrd : RdN w a L) :
    Calls Try.prog 81 #[.agg #[.int .i64 out, .slice a L.length cap]] w (LstE w (lvs L) (shE L)) := by
  have hC := fun (wx : World) (k : Keep w wx) => chosenL_any a cap out L hLn wx (hrd.keep k)
  have k0 := fun o => (Keep.refl w).alloc o
  go_enter Try.func81, Try.ntmps81
  go_wp2_with fail
  refine (hC _ (k0 _)).mono ?_
  rintro e w1 ⟨v, rfl, h2, h3, h4⟩
  go_wp2_with fail
  go_ret2
  exact LstE.up (k0 _) ⟨v, rfl, h2, h3, h4⟩
end Go.Proofs.Ytaogjiffnebnkaa.Mk
set_option linter.unusedVariables false
set_option linter.unusedSimpArgs false
namespace Go.Proofs.Ytaogjiffnebnkaa.Mk
open Go.RowKit Go.Shelf
/-- Numbers that can be read, by their bits. -/
def RdF (w : World) (a : Option Addr) (l : List Nat) : Prop :=
  ∀ j, j < l.length → ∃ b o, a = some ⟨b, o, none⟩ ∧ w.cell? ⟨b, o + j, none⟩ = some (.float .f64 (l.getD j 0))
theorem RdF.keep {w w' : World} {a : Option Addr} {l : List Nat} (h : RdF w a l) (k : Keep w w') : RdF w' a l := by
  intro j hj
  obtain ⟨b, o, e, hc⟩ := h j hj
  exact ⟨b, o, e, k.cell hc⟩
end Go.Proofs.Ytaogjiffnebnkaa.Mk
set_option linter.unusedVariables false
set_option linter.unusedSimpArgs false
namespace Go.Proofs.Ytaogjiffnebnkaa.Mk
open Go.RowKit Go.Shelf
attribute [local go_sem] Oper.semAt_some
theorem misF_zero {L : List Nd} : ∀ (f k : Nat), 0 < k → misF L f k = 0 → ∀ i, k ≤ i → i < k + f → misB L i = false
  | 0, k, _, _, i, h1, h2 => by omega
  | f + 1, k, hk, h, i, h1, h2 => by
    rw [misF] at h
    split at h
    · omega
    · rename_i hb
      by_cases e : i = k
      · subst e; simpa using hb
      · exact misF_zero f (k + 1) (by omega) h i (by omega) (by omega)
/-- Shape is content: it is a right tree. -/
theorem shE_tr {L : List Nd} (h : shE L = 0) : Tr (shp L) L.length := by
  have hR := shE_rgt h
  have hm : misF L (L.length - 1) 1 = 0 := by
    unfold shE at h
    split at h
    · cases h
    · cases hb : badF L L.length 0 with
      | some i => rw [hb] at h; cases h
      | none =>
        rw [hb] at h
        simp only at h
        split at h
        · assumption
        · cases h
  have hB : ∀ i, 0 < i → i < L.length → cnt (shp L) i L.length = 1 ∧ i ∈ ord (shp L) L.length := by
    intro i h1 h2
    have := misF_zero _ _ (by omega) hm i (by omega) (by omega)
    unfold misB at this
    simpa using this
  refine ⟨hR.wi, fun i hi hk => ?_, fun j h1 h2 => (hB j h1 h2).1, fun j hj => ?_⟩
  · have := hR.kids hi hk
    omega
  · by_cases e : j = 0
    · subst e; exact .zero
    · exact (ord_mem hR.wi j).1 (hB j (by omega) hj).2
end Go.Proofs.Ytaogjiffnebnkaa.Mk
set_option linter.unusedVariables false
set_option linter.unusedSimpArgs false
namespace Go.Proofs.Ytaogjiffnebnkaa.Mk
open Go.RowKit Go.Shelf
theorem run_store_fn {P : Program} {w : World} {a : Addr} {m : Mode} (f : Fn) (x y : Array Value) : (store a (.func f x y) m).run P w = stored P w a (.func f x y) m := run_store P w a _ m rfl
attribute [local go_sem] run_store_fn
theorem boxes3g (w : World) (u v x : Array Value) (t1 t2 t3 : Nat) : ∃ w4, ((w.alloc (Obj.cells u t1)).alloc (Obj.cells v t2)).alloc (Obj.cells x t3) = w4 ∧ Keep w w4 ∧ w4.heap.size = w.heap.size + 3 ∧
    w4.heap[w.heap.size]? = some (Obj.cells u t1 (0, 0)) ∧ w4.heap[w.heap.size + 1]? = some (Obj.cells v t2 (0, 0)) ∧ w4.heap[w.heap.size + 1 + 1]? = some (Obj.cells x t3 (0, 0)) := by
  refine ⟨_, rfl, (((Keep.refl w).alloc _).alloc _).alloc _, by simp, ?_, ?_, ?_⟩
  · exact (Below.heap_alloc _ _ _ (by simp; omega)).trans ((Below.heap_alloc _ _ _ (by simp)).trans (heap_alloc_new w _))
  · have := heap_alloc_new (w.alloc (Obj.cells u t1)) (Obj.cells v t2)
    rw [World.size_alloc] at this
    exact (Below.heap_alloc _ _ _ (by simp)).trans this
  · have := heap_alloc_new ((w.alloc (Obj.cells u t1)).alloc (Obj.cells v t2)) (Obj.cells x t3)
    rw [World.size_alloc, World.size_alloc] at this
    exact this
/-- What keeps a tree from being marked: it is none, or has too many leaves. -/
def lvE (L : List Nd) : Int := if shE L ≠ 0 then shE L else if 4096 < (lvs L).length then 3 else 0
set_option maxRecDepth 100000 in
theorem leavesOf_any (a : Option Addr) (cap : Nat) (out : Int) (L : List Nd) (hLn : L.length ≤ 2199023255552) (w : World) (hrd : RdN w a L) :
    Calls Try.prog 65 #[.agg #[.int .i64 out, .slice a L.length cap]] w fun e w' => ∃ v, e = .returned (.tuple #[v, .int .i64 (lvE L)]) ∧ (lvE L = 0 → OwnI w' v (lvs L) ∧ ∀ b, v.ownBlock = some b → w.heap.size ≤ b) ∧ (lvE L ≠ 0 → v = .slice none 0 0) ∧ Keep w w' := by
  have k0 : Keep w (w.alloc (Obj.cells #[Value.int IntKind.i64 out, Value.slice a L.length cap] 54)) := (Keep.refl w).alloc _
  have hC := Leaves_any a cap out L hLn _ (hrd.keep k0)
  have hll : (lvs L).length ≤ 2199023255552 := by
    unfold lvs
    split
    · rename_i h
      exact Nat.le_trans (List.length_filter_le _ _) (Nat.le_trans (ord_len (shE_rgt h).wi) hLn)
    · simp
  go_enter Try.func65, Try.ntmps65
  go_wp2_with fail
  refine hC.mono ?_
  rintro e w1 ⟨v, rfl, h1, h2, k1⟩
  have k01 := k0.trans k1
  obtain ⟨av, cv, rfl, hcv⟩ := h1.shape
  have h2' : ∀ b, (Value.slice av (lvs L).length cv).ownBlock = some b → w.heap.size ≤ b := fun b hb => Nat.le_trans k0.le (h2 b hb)
  clear hC h2
  by_cases hE : shE L = 0
  · have c1 : (shE L != 0) = false := by rw [bne_eq_false_iff_eq]; exact hE
    by_cases hM : 4096 < (lvs L).length
    · have c2 : decide (((lvs L).length : Int) > 4096) = true := decide_eq_true (by omega)
      have c3 : decide (4096 < ((lvs L).length : Int)) = true := decide_eq_true (by omega)
      have HE : Hid (lvE L = 3) := by show _ = _; unfold lvE; rw [if_neg (by simpa using hE), if_pos hM]
      replace hE : Hid _ := hE
      go_wp2_with fail
      refine bodyPost_ret (results_tmp2 rfl _ _ _) rfl ?_
      exact ⟨.slice none 0 0, by rw [HE.out]; rfl, fun h => (by rw [HE.out] at h; cases h), fun _ => rfl, k01⟩
    · have c2 : decide (((lvs L).length : Int) > 4096) = false := decide_eq_false (by omega)
      have c3 : decide (4096 < ((lvs L).length : Int)) = false := decide_eq_false (by omega)
      have HE : Hid (lvE L = 0) := by show _ = _; unfold lvE; rw [if_neg (by simpa using hE), if_neg hM]
      replace hE : Hid _ := hE
      go_wp2_with fail
      refine bodyPost_ret (results_tmp2 rfl _ _ _) rfl ?_
      exact ⟨.slice av (lvs L).length cv, by rw [HE.out]; rfl, fun _ => ⟨h1, h2'⟩, fun h => absurd HE.out h, k01⟩
  · have c1 : (shE L != 0) = true := by rw [bne_iff_ne]; exact hE
    have HE : Hid (lvE L = shE L) := by show _ = _; unfold lvE; rw [if_pos hE]
    replace hE : Hid _ := hE
    go_wp2_with fail
    refine bodyPost_ret (results_tmp2 rfl _ _ _) rfl ?_
    exact ⟨.slice none 0 0, by rw [HE.out]; rfl, fun h => absurd (HE.out.symm.trans h) hE.out, fun _ => rfl, k01⟩
/-- A tree that can be marked, written out. -/
theorem lvE_ok {L : List Nd} (h : lvE L = 0) : shE L = 0 ∧ Rgt L ∧ Tr (shp L) L.length ∧ ∃ b, Bt (shp L) b 0 ∧ lvs L = b.lv ∧ b.nl ≤ 4096 := by
  unfold lvE at h
  by_cases hE : shE L = 0
  · rw [if_neg (by simpa using hE)] at h
    by_cases hM : 4096 < (lvs L).length
    · rw [if_pos hM] at h; cases h
    · have hT := shE_tr hE
      obtain ⟨b, hb⟩ := bt_root hT
      have e : lvs L = b.lv := by
        unfold lvs
        rw [if_pos hE, ord_bt hT hb, ← hb.pre_lv]
        rfl
      refine ⟨hE, shE_rgt hE, hT, b, hb, e, ?_⟩
      rw [← b.lv_len, ← e]
      omega
  · rw [if_pos hE] at h; exact absurd h hE
set_option maxRecDepth 100000 in
set_option maxHeartbeats 1000000 in
theorem marksOf_any (a : Option Addr) (cap : Nat) (out : Int) (L : List Nd) (hLn : L.length ≤ 2199023255552) (hR : Rgt L) {b : BT} (hb : Bt (shp L) b 0) (hn : b.nl ≤ 4096) (w : World) (hrd : RdN w a L) :
    Calls Try.prog 66 #[.agg #[.int .i64 out, .slice a L.length cap]] w fun e w' => ∃ v, e = .returned v ∧ OwnM w.heap.size w' v (b.mks 0) ∧ Keep w w' := by
  obtain ⟨w1, hw1, k1, s1, r0, r1, r2⟩ := boxes3g w #[.int .i64 out, .slice a L.length cap] #[.slice none 0 0] #[.func (.func 82) #[] #[.pointer (some ⟨w.heap.size, 0, none⟩), .pointer (some ⟨w.heap.size + 1, 0, none⟩), .pointer (some ⟨w.heap.size + 1 + 1, 0, none⟩)]] 54 49 129
  have hM : MS w out a L.length cap [] (.slice none 0 0) w1 := ⟨k1, r0, r1, r2, OwnM.nil _ _, by omega⟩
  have hC := below_any w out a cap L hLn hR hrd hb hR.1 _ _ w1 0 hM (by simp only [List.length_nil]; omega) (by omega)
  replace hw1 : Hid _ := hw1
  clear r0 r1 r2 hM s1
  go_enter Try.func66, Try.ntmps66
  go_wp2_with fail
  rw [hw1.out]
  refine hC.mono ?_
  rintro e w2 ⟨v, rfl, hM⟩
  rw [List.nil_append] at hM
  have c2 := cell_of_row _ _ 0 _ 49 (0, 0) hM.b2
  simp only [List.getElem?_toArray, List.getElem?_cons_zero, List.getElem?_cons_succ] at c2
  obtain ⟨va, vc, rfl, -, -⟩ := hM.own.shape
  go_wp2_with fail
  go_ret
  exact ⟨_, rfl, own_mono hM.own (by omega), hM.kp⟩
set_option maxRecDepth 100000 in
theorem Marks_any (a : Option Addr) (cap : Nat) (out : Int) (L : List Nd) (hLn : L.length ≤ 2199023255552) (w : World) (hrd : RdN w a L) :
    Calls Try.prog 51 #[.agg #[.int .i64 out, .slice a L.length cap]] w fun e w' => ∃ v l, e = .returned (.tuple #[v, .int .i64 (lvE L)]) ∧ OwnM w.heap.size w' v l ∧ (lvE L ≠ 0 → l = []) ∧ (∀ b, lvE L = 0 → Bt (shp L) b 0 → l = b.mks 0) ∧ Keep w w' := by
  have k0 : Keep w (w.alloc (Obj.cells #[Value.int IntKind.i64 out, Value.slice a L.length cap] 54)) := (Keep.refl w).alloc _
  have tb : (w.alloc (Obj.cells #[Value.int IntKind.i64 out, Value.slice a L.length cap] 54)).heap[w.heap.size]? = some (Obj.cells #[Value.int IntKind.i64 out, Value.slice a L.length cap] 54 (0, 0)) := heap_alloc_new w _
  have hC := leavesOf_any a cap out L hLn _ (hrd.keep k0)
  go_enter Try.func51, Try.ntmps51
  go_wp2_with fail
  generalize w.alloc (Obj.cells #[Value.int IntKind.i64 out, Value.slice a L.length cap] 54) = w1 at *
  refine hC.mono ?_
  rintro e w2 ⟨v, rfl, h1, h2, k2⟩
  have k02 := k0.trans k2
  by_cases hE : lvE L = 0
  · have c1 : (lvE L != 0) = false := by rw [bne_eq_false_iff_eq]; exact hE
    obtain ⟨-, hR, -, b, hb, -, hn⟩ := lvE_ok hE
    have t2 := (k2.block _ (Array.getElem?_eq_some_iff.1 tb).1).trans tb
    have x0 := cell_of_row _ _ 0 _ 54 (0, 0) t2
    have x1 := cell_of_row _ _ 1 _ 54 (0, 0) t2
    simp only [List.getElem?_toArray, List.getElem?_cons_zero, List.getElem?_cons_succ] at x0 x1
    have hM := marksOf_any a cap out L hLn hR hb hn w2 (hrd.keep k02)
    obtain ⟨h1, -⟩ := h1 hE
    obtain ⟨av, cv, rfl, -⟩ := h1.shape
    replace hE : Hid _ := hE
    clear hC h1 h2 t2
    go_wp2_with fail
    refine hM.mono ?_
    rintro e w3 ⟨v3, rfl, hO, k3⟩
    obtain ⟨a3, c3, rfl, -, -⟩ := hO.shape
    go_wp2_with fail
    refine bodyPost_ret (results_tmp2 rfl _ _ _) rfl ?_
    exact ⟨.slice a3 (b.mks 0).length c3, b.mks 0, by rw [hE.out]; rfl, own_mono hO k02.le, fun h => absurd hE.out h, fun b2 _ h2 => by rw [hb.one h2], k02.trans k3⟩
  · have c1 : (lvE L != 0) = true := by rw [bne_iff_ne]; exact hE
    have h2 := h2 hE
    subst h2
    replace hE : Hid _ := hE
    clear hC h1
    go_wp2_with fail
    refine bodyPost_ret (results_tmp2 rfl _ _ _) rfl ?_
    exact ⟨.slice none 0 0, [], rfl, OwnM.nil _ _, fun _ => rfl, fun b h _ => absurd h hE.out, k02⟩
end Go.Proofs.Ytaogjiffnebnkaa.Mk
