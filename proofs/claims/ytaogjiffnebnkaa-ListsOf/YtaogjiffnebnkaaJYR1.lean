import Derived.Test.YtaogjiffnebnkaaP4
import Derived.Test.YtaogjiffnebnkaaProg
import Derived.Test.YtaogjiffnebnkaaJYT3
import Derived.Test.YtaogjiffnebnkaaKYT5
import Derived.Test.YtaogjiffnebnkaaKYT6
import Derived.Test.YtaogjiffnebnkaaKYU1
import Derived.Test.YtaogjiffnebnkaaKYMM
import Derived.Test.YtaogjiffnebnkaaKM1
import Derived.Test.YtaogjiffnebnkaaKM2
import Derived.Test.YtaogjiffnebnkaaKM3
import Derived.WalkKit
import Derived.WalkSpells
import Derived.WalkLawsBesides
import Derived.Deep.Draws
import Derived.Deep.QuietTactic
import Derived.BigQuiet
import Derived.Laws.Externs
import Derived.Laws.CopyOwn
import Derived.RangeFuncBox
import Derived.RangeFuncLeaves
import Derived.RangeFuncCalls
import Derived.RangeFuncRecord
import Derived.Below
import Derived.Shelf.Abstract
import Derived.OwnWalkIn
import Derived.TacticsInMore
import Derived.LoopNIn
import Derived.LoopIn
import Derived.Sort.LoopGhostIn
import Derived.Deep.RegionLaw
import Derived.Deep.RegionWith
import Derived.Deep.RegionHeld3
import Derived.Stop.RegionWithIn
set_option linter.unusedVariables false
set_option linter.unusedSimpArgs false
namespace Go.Proofs.Ytaogjiffnebnkaa.Mk
open Go.RowKit Go.Shelf
attribute [local go_sem] Oper.semAt_some
attribute [local go_sem] run_store_float
/-- The same tree, its sides exchanged. -/
def shpS (L : List Nd) : Sh := ⟨(shp L).K, (shp L).B, (shp L).A⟩
theorem rch_swap1 {L : List Nd} {i : Nat} (h : Rch (shp L) i) : Rch (shpS L) i := by
  induction h with
  | zero => exact .zero
  | left _ hk ih => exact Rch.right (t := shpS L) ih hk
  | right _ hk ih => exact Rch.left (t := shpS L) ih hk
theorem rch_swap2 {L : List Nd} {i : Nat} (h : Rch (shpS L) i) : Rch (shp L) i := by
  induction h with
  | zero => exact .zero
  | left _ hk ih => exact Rch.right (t := shp L) ih hk
  | right _ hk ih => exact Rch.left (t := shp L) ih hk
theorem Rgt.wiS {L : List Nd} (h : Rgt L) : In (shpS L) L.length := ⟨h.1, fun i hi hk => ⟨(h.kids hi hk).2.2.1, (h.kids hi hk).1.2.1⟩⟩
theorem ordS_mem {L : List Nd} (h : Rgt L) (i : Nat) : i ∈ ord (shpS L) L.length ↔ i ∈ ord (shp L) L.length := by
  rw [ord_mem h.wiS, ord_mem h.wi]
  exact ⟨rch_swap2, rch_swap1⟩
theorem cnt_root {L : List Nd} (h : Rgt L) : ∀ m, m ≤ L.length → cnt (shp L) 0 m = 0
  | 0, _ => rfl
  | m + 1, hm => by
    rw [cnt, cnt_root h m (by omega)]
    by_cases hk : (shp L).K m = true
    · have := h.kids (show m < L.length by omega) hk
      rw [if_neg (fun q => by omega), if_neg (fun q => by omega)]
    · rw [if_neg (fun q => hk q.1), if_neg (fun q => hk q.1)]
theorem right_kids {L : List Nd} {i : Nat} (hr : rightB (L.getD i nd0) L.length = true) (hk : (shp L).K i = true) :
    ((L.getD i nd0).lf = ((shp L).A i : Nat) ∧ (shp L).A i < L.length ∧ 0 < (shp L).A i) ∧ ((L.getD i nd0).rt = ((shp L).B i : Nat) ∧ (shp L).B i < L.length ∧ 0 < (shp L).B i) := by
  simp only [shp, decide_eq_true_eq] at hk ⊢
  generalize L.getD i nd0 = n at *
  unfold rightB spl at hr
  rcases hk with hk | hk
  · rw [if_neg (by omega), if_pos hk] at hr
    simp only [Bool.and_eq_true, decide_eq_true_eq] at hr
    omega
  · rw [if_neg (by omega), if_neg (by omega), if_pos hk] at hr
    simp only [Bool.and_eq_true, decide_eq_true_eq] at hr
    omega
/-- What the reference's search holds between two rounds. -/
structure RIt (L : List Nd) (w : World) (gm : Nat) (a : Option Addr) (cap : Nat) (out0 : Int) (f : Nat) (vw : Value) (wr : World) (outl S : List Nat) : Prop where
  own : OwnI wr vw S.reverse
  blk : ∀ b, vw.ownBlock = some b → gm < b
  row : RowB wr gm (mets L.length outl)
  abv : RowI wr (w.heap.size + 1) (cnts L L.length)
  tb : wr.heap[w.heap.size]? = some (Obj.cells #[Value.int IntKind.i64 out0, Value.slice a L.length cap] 54 (0, 0))
  kp : Keep w wr
  sz : gm < wr.heap.size
  way : Way (shpS L) L.length outl S
  eq : go (shpS L) f outl S = ord (shpS L) L.length
  fuel : 3 * (L.length - outl.length) + S.length ≤ f
  top : f ≤ 3 * L.length + 1
/-- Worlds in which the blocks up to gm are as they were. -/
theorem RIt.move {L : List Nd} {w : World} {gm : Nat} {a : Option Addr} {cap : Nat} {out0 : Int} {f : Nat} {vw vw' : Value} {wr w' : World} {outl S outl' S' : List Nat} {f' : Nat} (I : RIt L w gm a cap out0 f vw wr outl S) (hg : w.heap.size + 1 < gm)
    (kp : ∀ g, g < gm → w'.heap[g]? = wr.heap[g]?) (hst : w'.os = wr.os ∧ w'.tape = wr.tape ∧ w'.output = wr.output ∧ wr.heap.size ≤ w'.heap.size) (own : OwnI w' vw' S'.reverse) (blk : ∀ b, vw'.ownBlock = some b → gm < b) (row : RowB w' gm (mets L.length outl'))
    (way : Way (shpS L) L.length outl' S') (eq : go (shpS L) f' outl' S' = ord (shpS L) L.length) (fuel : 3 * (L.length - outl'.length) + S'.length ≤ f') (top : f' ≤ 3 * L.length + 1) : RIt L w gm a cap out0 f' vw' w' outl' S' := by
  refine ⟨own, blk, row, ?_, ?_, ?_, by have := I.sz; omega, way, eq, fuel, top⟩
  · unfold RowI; rw [kp _ hg]; exact I.abv
  · rw [kp _ (by omega)]; exact I.tb
  · exact ⟨hst.1.trans I.kp.os, hst.2.1.trans I.kp.tape, hst.2.2.1.trans I.kp.output, by have := I.kp.size; omega, fun g hg2 => (kp g (by omega)).trans (I.kp.block g hg2)⟩
set_option maxRecDepth 100000 in
set_option maxHeartbeats 4000000 in
theorem rShape_in (n : Nat) (hn : 3 ≤ n) (w : World) (a : Option Addr) (cap : Nat) (out : Int) (L : List Nd) (hLn : L.length ≤ 2199023255552) (hL0 : 0 < L.length) (hrd : RdN w a L) :
    CallsIn Fence.wide n Try.prog 109 #[.agg #[.int .i64 out, .slice a L.length cap]] w fun e w' => e = .returned (.tuple #[.int .i64 (shE L), .int .i64 (shI L : Nat)]) ∧ Keep w w' := by
  have h1 : 1 ≤ n := by omega
  have hlen : L.length ≤ 17592186044416 := by omega
  have hg0 : ((L.length : Int) == 0) = false := by rw [beq_eq_false_iff_ne]; omega
  have hg1 : ¬ L = [] := fun h => by rw [h] at hL0; simp at hL0
  refine callsIn_of_wp Try.func109 rfl trivial ?_ rfl
  simp only [Try.ntmps109, List.size_toArray, List.length_cons, List.length_nil, Nat.reduceAdd, Nat.reduceSub, Array.replicate_succ, Array.replicate_zero, List.push_toArray, List.append_toArray, List.nil_append, List.cons_append]
  gi_wp2_with (gi_at_make; refine wpListIn_makeI _ rfl _ _ rfl _ _ _ _ L.length rfl rfl rfl rfl hlen ?_)
  have S0 : ∃ W0, (w.alloc (Obj.cells #[Value.int IntKind.i64 out, Value.slice a L.length cap] 54)).alloc (Obj.cells (UI (List.replicate L.length 0)).toArray 3) = W0 ∧
      RowI W0 (w.heap.size + 1) (cnts L 0) ∧ W0.heap[w.heap.size]? = some (Obj.cells #[Value.int IntKind.i64 out, Value.slice a L.length cap] 54 (0, 0)) ∧ Keep w W0 ∧ W0.heap.size = w.heap.size + 2 := by
    refine ⟨_, rfl, ?_, ?_, ((Keep.refl w).alloc _).alloc _, by simp⟩
    · unfold RowI
      rw [cnts_zero]
      have := heap_alloc_new (w.alloc (Obj.cells #[Value.int IntKind.i64 out, Value.slice a L.length cap] 54)) (Obj.cells (UI (List.replicate L.length 0)).toArray 3)
      rw [World.size_alloc] at this
      exact this
    · exact (Below.heap_alloc _ _ _ (by simp)).trans (heap_alloc_new w _)
  obtain ⟨W0, hW0, R0, T0, K0, S0⟩ := S0
  rw [hW0]
  clear hW0
  gi_loopw [23] (fun iv wr => ∃ k : Nat, k ≤ L.length ∧ iv = .int .i64 k ∧ RowI wr (w.heap.size + 1) (cnts L k) ∧ wr.heap[w.heap.size]? = some (Obj.cells #[Value.int IntKind.i64 out, Value.slice a L.length cap] 54 (0, 0)) ∧ Keep w wr ∧ w.heap.size + 2 ≤ wr.heap.size ∧ Hid (badF L L.length 0 = badF L (L.length - k) k)) (fun iv _ => L.length - (intOf iv).toNat)
  case atStart => exact ⟨0, by omega, rfl, R0, T0, K0, by omega, rfl⟩
  case round =>
    obtain ⟨k, hk, rfl, R1, T1, K1, S1, hbad⟩ := hrel
    clear R0 T0 K0 S0
    by_cases hkl : k < L.length
    · have hkc : (k : Int) < (L.length : Int) := by omega
      obtain ⟨b, o, ca, cp, rfl, hnd⟩ := (hrd.keep K1) k hkl
      have hstep : badF L (L.length - k) k = if rightB (L.getD k nd0) L.length then badF L (L.length - (k + 1)) (k + 1) else some k := by
        rw [show L.length - k = (L.length - (k + 1)) + 1 by omega, badF]
      have c0 := hnd.c0
      have c1 := hnd.c1
      have c2 := hnd.c2
      have c3 := hnd.c3
      have c4 := hnd.c4
      have c5 := hnd.c5
      have c6 := hnd.c6
      have c7 := hnd.c7
      have hNd := fun (wx : World) (kx : Keep wr wx) => rnode_any wx (L.getD k nd0) L.length ca cp hnd.sz (hnd.rd.keep kx)
      obtain ⟨wb, hwb⟩ : ∃ wb, wr.alloc (Obj.cells #[Value.int IntKind.u8 (L.getD k nd0).kd, Value.int IntKind.i64 (L.getD k nd0).vl, Value.int IntKind.i64 (L.getD k nd0).ft, Value.float FloatKind.f64 (L.getD k nd0).th, Value.slice ca (L.getD k nd0).cs.length cp, Value.int IntKind.u8 (L.getD k nd0).ms, Value.int IntKind.i64 (L.getD k nd0).lf, Value.int IntKind.i64 (L.getD k nd0).rt] 83) = wb := ⟨_, rfl⟩
      have kb : Keep wr wb := by rw [← hwb]; exact (Keep.refl wr).alloc _
      have hbx : wb.heap[wr.heap.size]? = some (Obj.cells #[Value.int IntKind.u8 (L.getD k nd0).kd, Value.int IntKind.i64 (L.getD k nd0).vl, Value.int IntKind.i64 (L.getD k nd0).ft, Value.float FloatKind.f64 (L.getD k nd0).th, Value.slice ca (L.getD k nd0).cs.length cp, Value.int IntKind.u8 (L.getD k nd0).ms, Value.int IntKind.i64 (L.getD k nd0).lf, Value.int IntKind.i64 (L.getD k nd0).rt] 83 (0, 0)) := by rw [← hwb]; exact heap_alloc_new wr _
      have x0 : wb.cell? ⟨wr.heap.size, 0, none⟩ = some (.int .u8 (L.getD k nd0).kd) := by rw [cell_of_row _ _ 0 _ 83 (0, 0) hbx]; rfl
      have x6 : wb.cell? ⟨wr.heap.size, 6, none⟩ = some (.int .i64 (L.getD k nd0).lf) := by rw [cell_of_row _ _ 6 _ 83 (0, 0) hbx]; rfl
      have x7 : wb.cell? ⟨wr.heap.size, 7, none⟩ = some (.int .i64 (L.getD k nd0).rt) := by rw [cell_of_row _ _ 7 _ 83 (0, 0) hbx]; rfl
      replace hwb : Hid _ := hwb
      clear hbx
      have hN1 := hNd _ kb
      unfold Nd.v at hN1
      clear hNd hnd
      have hK : (shp L).K k = decide ((L.getD k nd0).kd = 2 ∨ (L.getD k nd0).kd = 3) := rfl
      by_cases hrt : rightB (L.getD k nd0) L.length = true
      · have HB : Hid (badF L L.length 0 = badF L (L.length - (k + 1)) (k + 1)) := by show _ = _; rw [hbad.out, hstep, if_pos hrt]
        rw [hrt] at hN1
        have hkd : (L.getD k nd0).kd = 1 ∨ (shp L).K k = true := by
          unfold rightB at hrt
          rw [hK, decide_eq_true_eq]
          split at hrt
          · exact .inl (by assumption)
          · split at hrt
            · exact .inr (.inl (by assumption))
            · split at hrt
              · exact .inr (.inr (by assumption))
              · cases hrt
        clear hstep hbad
        by_cases hki : (shp L).K k = true
        · have hR2 : ((L.getD k nd0).lf = ((shp L).A k : Nat) ∧ (shp L).A k < L.length ∧ 0 < (shp L).A k) ∧ ((L.getD k nd0).rt = ((shp L).B k : Nat) ∧ (shp L).B k < L.length ∧ 0 < (shp L).B k) := right_kids hrt hki
          obtain ⟨⟨e6, l6, p6⟩, ⟨e7, l7, p7⟩⟩ := hR2
          have hk1 : ¬ (L.getD k nd0).kd = 1 := by
            rw [hK, decide_eq_true_eq] at hki
            omega
          have q1 : (((L.getD k nd0).kd : Int) == 1) = false := by rw [beq_eq_false_iff_ne]; omega
          have q2 : (((L.getD k nd0).kd : Int) != 1) = true := by rw [bne_iff_ne]; omega
          rw [e6] at x6
          rw [e7] at x7
          have HC : Hid _ := cnts_inner hki l6 l7
          have bA : (cnts L k).getD ((shp L).A k) 0 ≤ 4398046511104 := by rw [cnts_get l6]; have := cnt_le (shp L) ((shp L).A k) k; omega
          have bB : ((cnts L k).set ((shp L).A k) ((cnts L k).getD ((shp L).A k) 0 + 1)).getD ((shp L).B k) 0 ≤ 4398046511105 := by
            simp only [List.getD, List.getElem?_set]
            simp only [List.getD] at bA
            split
            · split
              · simp; omega
              · simp
            · have := cnts_get (k := k) l7
              have h2 := cnt_le (shp L) ((shp L).B k) k
              simp only [List.getD] at this
              omega
          have lA : (shp L).A k < (cnts L k).length := by rw [cnts_len]; exact l6
          have lB : (shp L).B k < ((cnts L k).set ((shp L).A k) ((cnts L k).getD ((shp L).A k) 0 + 1)).length := by rw [List.length_set, cnts_len]; exact l7
          generalize hxb : ((cnts L k).set ((shp L).A k) ((cnts L k).getD ((shp L).A k) 0 + 1)).getD ((shp L).B k) 0 = xb at *
          generalize hxa : (cnts L k).getD ((shp L).A k) 0 = xa at *
          generalize (shp L).A k = ai at *
          generalize (shp L).B k = bi at *
          clear hK hkd hki hk1 hrt e6 e7
          generalize L.getD k nd0 = N at *
          gi_wp2_with fail
          rw [hwb.out]
          refine ⟨trivial, ?_⟩
          refine (callsIn_wide.2 hN1).mono ?_
          rintro e wc ⟨rfl, kc⟩
          have y0 := kc.cell x0
          have y6 := kc.cell x6
          have y7 := kc.cell x7
          have kbc := kb.trans kc
          have Rc : RowI wc (w.heap.size + 1) (cnts L k) := by unfold RowI; rw [kbc.block _ (by omega)]; exact R1
          have Tc := (kbc.block w.heap.size (by omega)).trans T1
          have Kc := K1.trans kbc
          have Sc : w.heap.size + 2 ≤ wc.heap.size := by have := kbc.le; omega
          clear R1 T1 K1 hN1 x0 x6 x7
          have cA := Rc.cell ai lA
          rw [hxa] at cA
          have fA := Rc.frozen ai
          have RA := Rc.set ai (xa + 1)
          have cB := RA.cell bi lB
          rw [hxb] at cB
          have fB := RA.frozen bi
          have RBB := RA.set bi (xb + 1)
          rw [HC.out] at RBB
          have nA := fun v => neq_set wc (w.heap.size + 1) ai v
          have y7A : ∀ v, (wc.setCell ⟨w.heap.size + 1, ai, none⟩ v).cell? ⟨wr.heap.size, 7, none⟩ = some (.int .i64 (bi : Nat)) := fun v => by
            rw [World.cell?_of_block (a := ⟨wr.heap.size, 7, none⟩) (nA v wr.heap.size (by omega))]; exact y7
          have nB := fun v v' => neq_set (wc.setCell ⟨w.heap.size + 1, ai, none⟩ v) (w.heap.size + 1) bi v'
          push_cast at cB fB RBB
          clear HC hxa hxb RA
          gi_wp2_with fail
          go_roundw
          case rel => exact ⟨k + 1, by omega, by go_num, RBB, by rw [nB _ _ _ (by omega), nA _ _ (by omega)]; exact Tc, (Kc.setCell (p := ⟨w.heap.size + 1, ai, none⟩) (by show w.heap.size ≤ w.heap.size + 1; omega) _).setCell (p := ⟨w.heap.size + 1, bi, none⟩) (by show w.heap.size ≤ w.heap.size + 1; omega) _, by simp; exact Sc, HB⟩
          case measure => simp [intOf]; omega
        · have hk1 : (L.getD k nd0).kd = 1 := by rcases hkd with h | h; exact h; exact absurd h hki
          have hkf : (shp L).K k = false := by simpa using hki
          have q1 : (((L.getD k nd0).kd : Int) == 1) = true := by rw [beq_iff_eq]; omega
          have q2 : (((L.getD k nd0).kd : Int) != 1) = false := by rw [bne_eq_false_iff_eq]; omega
          have HC : Hid (cnts L (k + 1) = cnts L k) := cnts_leaf hkf
          clear hK hkd hki hk1 hkf hrt
          generalize L.getD k nd0 = N at *
          gi_wp2_with fail
          rw [hwb.out]
          refine ⟨trivial, ?_⟩
          refine (callsIn_wide.2 hN1).mono ?_
          rintro e wc ⟨rfl, kc⟩
          have y0 := kc.cell x0
          have kbc := kb.trans kc
          gi_wp2_with fail
          go_roundw
          case rel => exact ⟨k + 1, by omega, by go_num, by show RowI _ _ _; rw [HC.out]; unfold RowI; rw [kbc.block _ (by omega)]; exact R1, (kbc.block _ (by omega)).trans T1, K1.trans kbc, by have := kbc.le; omega, HB⟩
          case measure => simp [intOf]; omega
      · have hrf : rightB (L.getD k nd0) L.length = false := by simpa using hrt
        have HB : Hid (badF L L.length 0 = some k) := by show _ = _; rw [hbad.out, hstep, hrf]; rfl
        have HE : Hid (shE L = 71 ∧ shI L = k) := by
          refine ⟨?_, ?_⟩
          · unfold shE; rw [if_neg (by omega), HB.out]
          · unfold shI; rw [if_neg (by omega), HB.out]
        rw [hrf] at hN1
        clear hstep hbad hrt hrf hK
        generalize L.getD k nd0 = N at *
        gi_wp2_with fail
        rw [hwb.out]
        refine ⟨trivial, ?_⟩
        refine (callsIn_wide.2 hN1).mono ?_
        rintro e wc ⟨rfl, kc⟩
        gi_wp2_with fail
        go_ret2
        rw [HE.out.1, HE.out.2]
        exact ⟨rfl, K1.trans (kb.trans kc)⟩
    · have hkc : ¬ (k : Int) < (L.length : Int) := by omega
      have hke : k = L.length := by omega
      have HB : Hid (badF L L.length 0 = none) := by show _ = _; rw [hbad.out, hke, Nat.sub_self]; rfl
      have hR : Rgt L := ⟨hL0, fun i hi => badF_none _ _ HB.out i (by omega) (by omega)⟩
      rw [hke] at R1
      have t1 : wr.cell? ⟨w.heap.size, 1, none⟩ = some (.slice a L.length cap) := by rw [cell_of_row _ _ 1 _ 54 (0, 0) T1]; rfl
      clear hbad hke
      gi_wp2_with (gi_at_make; refine wpListIn_makeB _ rfl _ _ rfl _ _ _ _ L.length rfl rfl rfl rfl hlen ?_)
      have I0 : RIt L w wr.heap.size a cap out (3 * L.length + 1) (.slice (some ⟨wr.heap.size + 1, 0, none⟩) 1 1) ((wr.alloc (Obj.cells (UB (List.replicate L.length false)).toArray 4)).alloc (Obj.cells #[Value.int IntKind.i64 0] 3)) [] [0] := by
        have old : ∀ g, g < wr.heap.size → ((wr.alloc (Obj.cells (UB (List.replicate L.length false)).toArray 4)).alloc (Obj.cells #[Value.int IntKind.i64 0] 3)).heap[g]? = wr.heap[g]? := fun g hg => (Below.heap_alloc _ _ _ (by simp; omega)).trans (Below.heap_alloc _ _ _ hg)
        refine ⟨?_, ?_, ?_, ?_, ?_, ((K1.alloc _).alloc _), by simp; omega, Way.start hR.wiS, rfl, by simp, by omega⟩
        · refine ⟨rfl, .inr ⟨wr.heap.size + 1, 1, #[Value.int IntKind.i64 0], rfl, by omega, ?_, by simp, by decide, by simp, rfl⟩⟩
          have := heap_alloc_new (wr.alloc (Obj.cells (UB (List.replicate L.length false)).toArray 4)) (Obj.cells #[Value.int IntKind.i64 0] 3)
          rw [World.size_alloc] at this
          exact this
        · intro b hb
          have hb : some (wr.heap.size + 1) = some b := hb
          simp only [Option.some.injEq] at hb
          omega
        · unfold RowB
          rw [mets_nil]
          exact (Below.heap_alloc _ _ _ (by simp)).trans (heap_alloc_new wr _)
        · unfold RowI; rw [old _ (by omega)]; exact R1
        · rw [old _ (by omega)]; exact T1
      obtain ⟨gm, hgm⟩ : ∃ gm, wr.heap.size = gm := ⟨_, rfl⟩
      obtain ⟨wE, hwE⟩ : ∃ wE, (wr.alloc (Obj.cells (UB (List.replicate L.length false)).toArray 4)).alloc (Obj.cells #[Value.int IntKind.i64 0] 3) = wE := ⟨_, rfl⟩
      rw [hwE, hgm] at I0
      rw [hwE, hgm]
      rw [hgm] at S1
      have S2 : w.heap.size + 1 < gm := by omega
      clear hwE hgm t1 R1 T1 K1 S1
      gi_loopg [9] (3 * L.length + 1) (fun f vw wr => ∃ outl S, RIt L w gm a cap out f vw wr outl S)
      case atStart => exact ⟨[], [0], I0⟩
      case round =>
        obtain ⟨outl, S, I⟩ := hrel
        clear I0
        cases S with
        | nil =>
          obtain ⟨av, cv, hv, hcv⟩ := I.own.shape
          rw [List.reverse_nil, List.length_nil] at hv
          subst hv
          have hfin : outl = ord (shpS L) L.length := by have := I.eq; rw [go_nil] at this; exact this
          subst hfin
          have t1 : wr.cell? ⟨w.heap.size, 1, none⟩ = some (.slice a L.length cap) := by rw [cell_of_row _ _ 1 _ 54 (0, 0) I.tb]; rfl
          have HE : Hid (shE L = (if misF L (L.length - 1) 1 = 0 then 0 else 70) ∧ shI L = misF L (L.length - 1) 1) := by
            refine ⟨?_, ?_⟩
            · unfold shE; rw [if_neg (by omega), HB.out]
            · unfold shI; rw [if_neg (by omega), HB.out]
          have q1 := I.abv
          have q2 := I.row
          have q5 := I.kp
          gi_wp2
          gi_loopw [93] (fun iv wx => ∃ k : Nat, k ≤ L.length ∧ iv = .int .i64 k ∧ wx = wr ∧ Hid (0 < k → misF L (L.length - 1) 1 = misF L (L.length - k) k)) (fun iv _ => L.length - (intOf iv).toNat)
          case atStart => exact ⟨0, by omega, rfl, rfl, fun h => by omega⟩
          case round =>
            rename_i wx0
            obtain ⟨k, hkn, rfl, hwr, hmis⟩ := hrel
            subst hwr
            by_cases hkl2 : k < L.length
            · have CA : Hid (wr.cell? ⟨w.heap.size + 1, k, none⟩ = some (.int .i64 (cnt (shp L) k L.length : Nat))) := by
                show _ = _
                rw [q1.cell k (by rw [cnts_len]; exact hkl2), cnts_get hkl2]
              have CM : Hid (wr.cell? ⟨gm, k, none⟩ = some (.bool (decide (k ∈ ord (shp L) L.length)))) := by
                show _ = _
                rw [q2.cell k (by rw [mets_len]; exact hkl2), mets_get hkl2, decide_eq_decide.2 (ordS_mem hR k)]
              have hkc2 : (k : Int) < (L.length : Int) := by omega
              by_cases hk0 : k = 0
              · have ho : k ∈ ord (shp L) L.length := by rw [hk0]; exact (ord_mem hR.wi 0).2 .zero
                have hc0 : cnt (shp L) k L.length = 0 := by rw [hk0]; exact cnt_root hR _ (Nat.le_refl _)
                have ca : wr.cell? ⟨w.heap.size + 1, k, none⟩ = some (.int .i64 0) := by rw [CA.out, hc0]; rfl
                have cm : wr.cell? ⟨gm, k, none⟩ = some (.bool true) := by rw [CM.out, decide_eq_true ho]
                have HN : Hid (0 < k + 1 → misF L (L.length - 1) 1 = misF L (L.length - (k + 1)) (k + 1)) := by intro _; rw [hk0]
                have z1 : ((k : Int) == 0) = true := by rw [beq_iff_eq]; omega
                have z2 : decide (0 < (k : Int)) = false := by rw [decide_eq_false_iff_not]; omega
                have z3 : ¬ 0 < k := by omega
                replace hk0 : Hid _ := hk0
                clear ho hc0 hmis
                gi_wp2
                go_roundw
                case rel => exact ⟨k + 1, by omega, by go_num, trivial, HN⟩
                case measure => simp [intOf]; omega
              · have hstep : misF L (L.length - k) k = if misB L k then k else misF L (L.length - (k + 1)) (k + 1) := by
                  rw [show L.length - k = (L.length - (k + 1)) + 1 by omega, misF]
                have hmb : misB L k = !(cnt (shp L) k L.length == 1 && decide (k ∈ ord (shp L) L.length)) := rfl
                have hmis := hmis.out (by omega)
                have z1 : ((k : Int) == 0) = false := by rw [beq_eq_false_iff_ne]; omega
                have z2 : decide (0 < (k : Int)) = true := by rw [decide_eq_true_eq]; omega
                have z3 : 0 < k := by omega
                by_cases hc1 : cnt (shp L) k L.length = 1
                · by_cases ho : k ∈ ord (shp L) L.length
                  · have HM : Hid (0 < k + 1 → misF L (L.length - 1) 1 = misF L (L.length - (k + 1)) (k + 1)) := by
                      intro _
                      rw [hmis, hstep, hmb, hc1, decide_eq_true ho]
                      rfl
                    have ca : wr.cell? ⟨w.heap.size + 1, k, none⟩ = some (.int .i64 1) := by rw [CA.out, hc1]; rfl
                    have cm : wr.cell? ⟨gm, k, none⟩ = some (.bool true) := by rw [CM.out, decide_eq_true ho]
                    clear hstep hmb hmis hc1 ho
                    gi_wp2
                    go_roundw
                    case rel => exact ⟨k + 1, by omega, by go_num, trivial, HM⟩
                    case measure => simp [intOf]; omega
                  · have HM : Hid (misF L (L.length - 1) 1 = k) := by
                      show _ = _
                      rw [hmis, hstep, hmb, hc1, decide_eq_false ho]
                      rfl
                    have ca : wr.cell? ⟨w.heap.size + 1, k, none⟩ = some (.int .i64 1) := by rw [CA.out, hc1]; rfl
                    have cm : wr.cell? ⟨gm, k, none⟩ = some (.bool false) := by rw [CM.out, decide_eq_false ho]
                    clear hstep hmb hmis hc1 ho
                    gi_wp2
                    go_ret2
                    rw [HE.out.1, HE.out.2, HM.out, if_neg (by omega)]
                    exact ⟨rfl, q5⟩
                · have HM : Hid (misF L (L.length - 1) 1 = k) := by
                    show _ = _
                    rw [hmis, hstep, hmb, show (cnt (shp L) k L.length == 1) = false by rw [beq_eq_false_iff_ne]; exact hc1]
                    rfl
                  have z4 : (((cnt (shp L) k L.length : Nat) : Int) == 1) = false := by rw [beq_eq_false_iff_ne]; omega
                  have z5 : (((cnt (shp L) k L.length : Nat) : Int) != 1) = true := by rw [bne_iff_ne]; omega
                  have ca : wr.cell? ⟨w.heap.size + 1, k, none⟩ = some (.int .i64 (cnt (shp L) k L.length : Nat)) := CA.out
                  clear hstep hmb hmis CA CM
                  generalize cnt (shp L) k L.length = cc at *
                  gi_wp2
                  go_ret2
                  rw [HE.out.1, HE.out.2, HM.out, if_neg (by omega)]
                  exact ⟨rfl, q5⟩
            · have HM : Hid (misF L (L.length - 1) 1 = 0) := by
                show _ = _
                rw [hmis.out (by omega), show L.length - k = 0 by omega]
                rfl
              have hkc2 : ¬ (k : Int) < (L.length : Int) := by omega
              gi_wp2
              go_ret2
              rw [HE.out.1, HE.out.2, HM.out, if_pos rfl]
              exact ⟨rfl, q5⟩
        | cons i S =>
          obtain ⟨gw, capw, hv, hcap, hgw, hcells⟩ := I.own.cells (by simp)
          have hrl : (i :: S).reverse.length = S.length + 1 := by simp
          have own0 := I.own
          rw [hv, List.reverse_cons] at own0
          have own1 := own0.pop
          rw [List.length_reverse] at own1
          have gwb : gm < gw := I.blk gw (by rw [hv]; rfl)
          have hci : wr.cell? ⟨gw, S.length, none⟩ = some (.int .i64 (i : Nat)) := by
            rw [hcells S.length (by rw [hrl]; omega), show (i :: S).reverse.getD S.length 0 = i by simp [List.getD]]
          rw [hrl] at hv
          subst hv
          have iN : i < L.length := I.way.ls i List.mem_cons_self
          have hfu := I.fuel
          have htp := I.top
          simp only [List.length_cons] at hfu
          obtain ⟨f, rfl⟩ : ∃ f, gk = f + 1 := ⟨gk - 1, by omega⟩
          have hgo := I.eq
          rw [go] at hgo
          have hiN : (i : Int) < (L.length : Int) := by omega
          have hcp : S.length ≤ capw := by rw [hrl] at hcap; omega
          have blk1 : ∀ b, (Value.slice (some ⟨gw, 0, none⟩) S.length capw).ownBlock = some b → gm < b := fun b hb => by
            have hb : some gw = some b := hb
            simp only [Option.some.injEq] at hb
            omega
          by_cases hm : i ∈ outl
          · rw [if_pos hm] at hgo
            have hcm : wr.cell? ⟨gm, i, none⟩ = some (.bool true) := by rw [I.row.cell i (by rw [mets_len]; exact iN), mets_get iN, decide_eq_true hm]
            have HI : RIt L w gm a cap out f (.slice (some ⟨gw, 0, none⟩) S.length capw) wr outl S :=
              I.move S2 (fun _ _ => rfl) ⟨rfl, rfl, rfl, Nat.le_refl _⟩ own1 blk1 I.row (I.way.old hm) hgo (by omega) (by omega)
            clear I hgo own0 own1 hcells
            gi_wp2
            gi_roundg f
            case rel => exact ⟨outl, S, HI⟩
            case measure => omega
          · rw [if_neg hm] at hgo
            have hcm : wr.cell? ⟨gm, i, none⟩ = some (.bool false) := by rw [I.row.cell i (by rw [mets_len]; exact iN), mets_get iN, decide_eq_false hm]
            have hfz := I.row.frozen i
            have wayN := I.way.new hR.wiS hm
            have hnd := nodup_len wayN.nd wayN.lo
            have hol : outl.length < L.length := by simp at hnd; omega
            have rowA := I.row.set i true
            rw [mets_set iN] at rowA
            have neA := neq_set wr gm i (.bool true)
            have ownA : OwnI (wr.setCell ⟨gm, i, none⟩ (.bool true)) (.slice (some ⟨gw, 0, none⟩) S.length capw) S.reverse := own1.same (fun b hb => by
              have hb : some gw = some b := hb
              simp only [Option.some.injEq] at hb
              subst hb
              exact neA gw (by omega))
            have szA : (wr.setCell ⟨gm, i, none⟩ (.bool true)).heap.size = wr.heap.size := by simp
            have IA : ∀ S' f', Way (shpS L) L.length (outl ++ [i]) S' → OwnI (wr.setCell ⟨gm, i, none⟩ (.bool true)) (.slice (some ⟨gw, 0, none⟩) S.length capw) S'.reverse → go (shpS L) f' (outl ++ [i]) S' = ord (shpS L) L.length → 3 * (L.length - (outl ++ [i]).length) + S'.length ≤ f' → f' ≤ 3 * L.length + 1 → RIt L w gm a cap out f' (.slice (some ⟨gw, 0, none⟩) S.length capw) (wr.setCell ⟨gm, i, none⟩ (.bool true)) (outl ++ [i]) S' :=
              fun S' f' h1 h2 h3 h4 h5 => I.move S2 (fun g hg => neA g (by omega)) ⟨rfl, rfl, rfl, by rw [szA]; exact Nat.le_refl _⟩ h2 blk1 rowA h1 h3 h4 h5
            have tbA : (wr.setCell ⟨gm, i, none⟩ (.bool true)).cell? ⟨w.heap.size, 1, none⟩ = some (.slice a L.length cap) := by
              rw [World.cell?_of_block (a := ⟨w.heap.size, 1, none⟩) (neA w.heap.size (by omega)), cell_of_row _ _ 1 _ 54 (0, 0) I.tb]; rfl
            have kA : Keep w (wr.setCell ⟨gm, i, none⟩ (.bool true)) := I.kp.setCell (p := ⟨gm, i, none⟩) (by show w.heap.size ≤ gm; omega) _
            have szI := I.sz
            have hosA : (wr.setCell ⟨gm, i, none⟩ (.bool true)).os = wr.os ∧ (wr.setCell ⟨gm, i, none⟩ (.bool true)).tape = wr.tape ∧ (wr.setCell ⟨gm, i, none⟩ (.bool true)).output = wr.output := ⟨rfl, rfl, rfl⟩
            generalize hWA : wr.setCell ⟨gm, i, none⟩ (.bool true) = wA at *
            have rowA' := rowA
            clear own0 own1 hcells rowA
            obtain ⟨b, o, ca, cp, rfl, hnd2⟩ := (hrd.keep kA) i iN
            have c0 := hnd2.c0
            have c1 := hnd2.c1
            have c2 := hnd2.c2
            have c3 := hnd2.c3
            have c4 := hnd2.c4
            have c5 := hnd2.c5
            have c6 := hnd2.c6
            have c7 := hnd2.c7
            have hK : (shp L).K i = decide ((L.getD i nd0).kd = 2 ∨ (L.getD i nd0).kd = 3) := rfl
            have hrt := hR.2 i iN
            obtain ⟨wb, hwb⟩ : ∃ wb, wA.alloc (Obj.cells #[Value.int IntKind.u8 (L.getD i nd0).kd, Value.int IntKind.i64 (L.getD i nd0).vl, Value.int IntKind.i64 (L.getD i nd0).ft, Value.float FloatKind.f64 (L.getD i nd0).th, Value.slice ca (L.getD i nd0).cs.length cp, Value.int IntKind.u8 (L.getD i nd0).ms, Value.int IntKind.i64 (L.getD i nd0).lf, Value.int IntKind.i64 (L.getD i nd0).rt] 83) = wb := ⟨_, rfl⟩
            have kb : Keep wA wb := by rw [← hwb]; exact (Keep.refl wA).alloc _
            by_cases hki : (shp L).K i = true
            · have hkS : (shpS L).K i = true := hki
              rw [if_pos hkS] at hgo wayN
              obtain ⟨⟨e6, l6, p6⟩, ⟨e7, l7, p7⟩⟩ := hR.kids iN hki
              have hk1 : ¬ (L.getD i nd0).kd = 1 := by
                rw [hK, decide_eq_true_eq] at hki
                omega
              have q1 : (((L.getD i nd0).kd : Int) == 1) = false := by rw [beq_eq_false_iff_ne]; omega
              have q2 : (((L.getD i nd0).kd : Int) != 1) = true := by rw [bne_iff_ne]; omega
              have eA : (shpS L).A i = (shp L).B i := rfl
              have eB : (shpS L).B i = (shp L).A i := rfl
              rw [eA, eB] at hgo wayN
              subst hwb
              rw [e6] at c6 kb
              rw [e7] at c7 kb
              generalize (shp L).A i = ai at *
              generalize (shp L).B i = bi at *
              have rowB : RowB wA gm (mets L.length (outl ++ [i])) := rowA'
              clear hK hkS hki hk1 hrt e6 e7 eA eB hnd2
              generalize L.getD i nd0 = N at *
              have h48 : S.reverse.length + [ai, bi].length ≤ 17592186044416 := by simp; omega
              gi_wp2_with (gi_at_builtin; refine wpListIn_appI _ rfl _ _ rfl S.reverse [ai, bi] _ rfl (World.ownsRow.alloc (World.ownsRow.alloc ownA _) _) ⟨wr.heap.size + 1, 0, none⟩ 2 2 rfl rfl (by simp) ?_ h48 ?_)
              · intro j u hj
                have := heap_alloc_new (wA.alloc (Obj.cells #[Value.int IntKind.u8 N.kd, Value.int IntKind.i64 N.vl, Value.int IntKind.i64 N.ft, Value.float FloatKind.f64 N.th, Value.slice ca N.cs.length cp, Value.int IntKind.u8 N.ms, Value.int IntKind.i64 (ai : Nat), Value.int IntKind.i64 (bi : Nat)] 83)) (Obj.cells #[Value.int IntKind.i64 (ai : Nat), Value.int IntKind.i64 (bi : Nat)] 3)
                rw [World.size_alloc, szA] at this
                rw [Go.WideShapes.add_plain, cell_of_row _ _ _ _ 3 (0, 0) this]
                match j, hj with
                | 0, hj => simpa [UI] using hj
                | 1, hj => simpa [UI] using hj
              · intro v' w3 ho hgr hsep
                have hb1 : Below wA.heap.size wA ((wA.alloc (Obj.cells #[Value.int IntKind.u8 N.kd, Value.int IntKind.i64 N.vl, Value.int IntKind.i64 N.ft, Value.float FloatKind.f64 N.th, Value.slice ca N.cs.length cp, Value.int IntKind.u8 N.ms, Value.int IntKind.i64 (ai : Nat), Value.int IntKind.i64 (bi : Nat)] 83)).alloc (Obj.cells #[Value.int IntKind.i64 (ai : Nat), Value.int IntKind.i64 (bi : Nat)] 3)) := ((Below.refl _ wA).alloc (Nat.le_refl _) _).alloc (by simp) _
                have k3 : ∀ g, g < wA.heap.size → g ≠ gw → w3.heap[g]? = wA.heap[g]? := fun g hg hne => by
                  rw [hgr.block g (Nat.lt_of_lt_of_le hg hb1.size) (fun e => by
                    have e : some g = some gw := e
                    simp only [Option.some.injEq] at e
                    exact hne e), hb1.block g hg]
                have sz3 : wA.heap.size ≤ w3.heap.size := Nat.le_trans hb1.size hgr.size
                have HI : RIt L w gm (some ⟨b, o, none⟩) cap out f v' w3 (outl ++ [i]) (bi :: ai :: S) := by
                  refine I.move S2 (fun g hg => (k3 g (by omega) (by omega)).trans (neA g (by omega))) ⟨hgr.os.trans (hb1.os.trans hosA.1), hgr.tape.trans (hb1.tape.trans hosA.2.1), hgr.output.trans (hb1.output.trans hosA.2.2), by omega⟩ ?_ ?_ ?_ wayN hgo (by simp; omega) (by omega)
                  · rw [show (bi :: ai :: S).reverse = S.reverse ++ [ai, bi] by simp]; exact ho
                  · intro b' hb'
                    rcases hsep with e | e
                    · rw [e] at hb'; exact blk1 b' hb'
                    · rw [e] at hb'
                      simp only [Option.some.injEq] at hb'
                      have := hb1.size
                      omega
                  · unfold RowB; rw [k3 gm (by omega) (by omega)]; exact rowB
                obtain ⟨av', cv', rfl, hcv'⟩ := ho.shape
                have e2 : (S.reverse ++ [ai, bi]).length = S.length + 2 := by simp
                rw [e2] at HI ⊢
                clear ho hgr hsep hb1 k3 I IA wayN hgo rowB ownA
                gi_wp2
                gi_roundg f
                case rel => exact ⟨_, _, HI⟩
                case measure => omega
            · have hkf : (shpS L).K i = false := by show (shp L).K i = false; simpa using hki
              rw [if_neg (by rw [hkf]; simp)] at hgo wayN
              have hk1 : (L.getD i nd0).kd = 1 := by
                unfold rightB at hrt
                rw [hK, decide_eq_true_eq] at hki
                split at hrt
                · assumption
                · rw [if_neg (by omega), if_neg (by omega)] at hrt; cases hrt
              have q1 : (((L.getD i nd0).kd : Int) == 1) = true := by rw [beq_iff_eq]; omega
              have q2 : (((L.getD i nd0).kd : Int) != 1) = false := by rw [bne_eq_false_iff_eq]; omega
              have HI0 := IA S f wayN ownA hgo (by simp; omega) (by omega)
              have HI : RIt L w gm (some ⟨b, o, none⟩) cap out f (.slice (some ⟨gw, 0, none⟩) S.length capw) wb (outl ++ [i]) S :=
                HI0.move S2 (fun g hg => kb.block g (by omega)) ⟨kb.os, kb.tape, kb.output, kb.le⟩ (ownA.same (fun b hb => kb.block b (by
                  have hb : some gw = some b := hb
                  simp only [Option.some.injEq] at hb
                  omega))) blk1 (by have h := HI0.row; unfold RowB at h ⊢; rw [kb.block _ (by omega)]; exact h) wayN hgo (by simp; omega) (by omega)
              subst hwb
              clear IA HI0 hK hkf hki hk1 hrt hgo wayN kb hnd2
              generalize L.getD i nd0 = N at *
              gi_wp2
              gi_roundg f
              case rel => exact ⟨_, _, HI⟩
              case measure => omega
end Go.Proofs.Ytaogjiffnebnkaa.Mk
