import Derived.Test.YtaogjiffnebnkaaProg
import Derived.Test.YtaogjiffnebnkaaKYT6
import Derived.WalkKit
import Derived.WalkSpells
import Derived.WalkLawsBesides
import Derived.Deep.Draws
import Derived.Deep.QuietTactic
import Derived.BigQuiet
import Derived.Laws.Externs
import Derived.Laws.CopyOwn
import Derived.RangeFuncBox
import Derived.RangeFuncLeaves
import Derived.RangeFuncCalls
import Derived.RangeFuncRecord
import Derived.Below
import Derived.Shelf.Abstract
import Derived.OwnWalkIn
import Derived.TacticsInMore
import Derived.LoopNIn
import Derived.LoopIn
import Derived.Sort.LoopGhostIn
import Derived.Deep.RegionLaw
import Derived.Deep.RegionWith
import Derived.Deep.RegionHeld3
set_option linter.unusedVariables false
set_option linter.unusedSimpArgs false
namespace Go.Proofs.Ytaogjiffnebnkaa.Mk
open Go.RowKit Go.Shelf
attribute [local go_sem] Oper.semAt_some
/-- What is reached, as an iterator. -/
theorem reach_seq (n : Nat) (hn : 1 ≤ n) (Bs n0 : Nat) (a : Option Addr) (cap : Nat) (L : List Nd) (hLn : L.length ≤ 2199023255552) (hR : Rgt L) (w : World) (hBs : w.cell? ⟨Bs, 0, none⟩ = some (.slice a L.length cap)) (hBn : n0 ≤ Bs) (hnW : n0 ≤ w.heap.size) (hrd : RdB n0 w a L) :
    SeqT n Try.prog 122 #[.pointer (some ⟨Bs, 0, none⟩)] (fun x : Fin L.length => #[Value.int .i64 ((x.val : Nat) : Int)]) n0 (fun g => g = Bs) (fun xs => nums xs = ord (shp L) L.length) (fun pre => nums pre <+: ord (shp L) L.length) L.length w := by
  intro y J Jx W hW hJ1 hY h0
  have hBl : Bs < w.heap.size := World.block_lt_of_cell? w _ hBs
  refine (reach_in n hn y Bs n0 a cap L hLn hR J Jx hJ1 hY W ((Below.cell hW hBl).trans hBs) hBn (by have := hW.size; omega) (hrd.same (fun g hg => hW.block g (by omega))) h0).mono ?_
  rintro e W' ⟨he, h | ⟨pre, hp, h⟩⟩
  · exact ⟨he, .inl h⟩
  · exact ⟨he, .inr ⟨pre, hp, h⟩⟩
set_option maxHeartbeats 1000000 in
theorem reached_in (n : Nat) (a : Option Addr) (len cap : Nat) (w : World) :
    CallsIn Fence.wide n Try.prog 111 #[.slice a len cap] w fun e w' => e = .returned (.func (.func 122) #[] #[.pointer (some ⟨w.heap.size, 0, none⟩)]) ∧ w' = w.alloc (.cells #[.slice a len cap] 52) := by
  refine callsIn_of_wp Try.func111 rfl trivial ?_ rfl
  simp only [Try.ntmps111, List.size_toArray, List.length_cons, List.length_nil, Nat.reduceAdd, Nat.reduceSub, Array.replicate_succ, Array.replicate_zero, List.push_toArray, List.append_toArray, List.nil_append, List.cons_append]
  gi_wp2
  go_ret
  exact ⟨rfl, rfl⟩
def RowI (w : World) (g : Nat) (l : List Nat) : Prop := w.heap[g]? = some (.cells (UI l).toArray 3 (0, 0))
theorem RowI.lt {w : World} {g : Nat} {l : List Nat} (h : RowI w g l) : g < w.heap.size := (Array.getElem?_eq_some_iff.1 h).1
theorem RowI.cell {w : World} {g : Nat} {l : List Nat} (h : RowI w g l) (j : Nat) (hj : j < l.length) : w.cell? ⟨g, j, none⟩ = some (.int .i64 (l.getD j 0 : Nat)) := by
  rw [cell_of_row w g j _ 3 (0, 0) h]; simpa using UI_get l j hj
theorem RowI.frozen {w : World} {g : Nat} {l : List Nat} (h : RowI w g l) (j : Nat) : w.frozen? ⟨g, j, none⟩ = false := frozen_of_row w g j _ 3 h
theorem RowI.set {w : World} {g : Nat} {l : List Nat} (h : RowI w g l) (j : Nat) (x : Nat) : RowI (w.setCell ⟨g, j, none⟩ (.int .i64 (x : Nat))) g (l.set j x) := by
  have := heap_setCell_same w g j _ 3 (.int .i64 (x : Nat)) h
  unfold RowI
  rw [this]
  simp [UI, List.map_set]
/-- make([]int, n). -/
theorem wpListIn_makeI {F : Fence} {m : Nat} (w : World) {ops : Array Oper} {rest : List Oper} {o : Oper} {a : Act} {Q : Exit → Act → World → Prop} (hg : o.guard = none) (l c : Operand) (hop : o.op = Op.makeSlice 55 l c) (kl kc : IntKind) (X C : Int) (n : Nat) (hl : a.eval l = .int kl X) (hc : a.eval c = .int kc C) (hL : X = (n : Int)) (hC : C = (n : Int)) (hn : n ≤ 17592186044416)
    (hK : wpListIn F m Try.prog ops Q rest (a.put o.dst (.slice (some ⟨w.heap.size, 0, none⟩) n n)) (w.alloc (.cells (UI (List.replicate n 0)).toArray 3))) :
    wpListIn F m Try.prog ops Q (o :: rest) a w := by
  refine wpListIn_plain hg fun K hK' => ?_
  obtain ⟨i, hi, hz0, hz1, hz2⟩ := info_parts i3
  have hr := run_make (P := Try.prog) w 55 3 i _ Try.underlying55 hi hz0 kl kc n n (by omega) (by omega) (by rw [hz2]; omega) (by omega)
  subst hL
  subst hC
  rw [hz1] at hr
  simp only [Int.toNat_natCast, Nat.mul_one, made3] at hr
  unfold Oper.wpIn
  refine ⟨?_, ?_⟩
  · simp [Oper.about, hop]
  · rw [Oper.semAt_plain F _ _ (by rw [hop]; intro c hc'; cases hc')]
    simp [execOp, hop, hl, hc, hr, Result.andThen]
    exact hK' _ _ hK
/-- How often each stands below one of the first k. -/
def cnts (L : List Nd) (k : Nat) : List Nat := (List.range L.length).map fun j => cnt (shp L) j k
theorem cnts_len (L : List Nd) (k : Nat) : (cnts L k).length = L.length := by simp [cnts]
theorem cnts_get {L : List Nd} {k j : Nat} (h : j < L.length) : (cnts L k).getD j 0 = cnt (shp L) j k := by simp [cnts, List.getD, h]
theorem cnts_zero (L : List Nd) : cnts L 0 = List.replicate L.length 0 := by
  apply List.ext_getElem
  · simp [cnts]
  · intro i h1 h2; simp [cnts, cnt]
theorem cnts_leaf {L : List Nd} {k : Nat} (h : (shp L).K k = false) : cnts L (k + 1) = cnts L k := by
  simp [cnts, cnt, h]
theorem cnts_inner {L : List Nd} {k : Nat} (h : (shp L).K k = true) (ha : (shp L).A k < L.length) (hb : (shp L).B k < L.length) :
    ((cnts L k).set ((shp L).A k) ((cnts L k).getD ((shp L).A k) 0 + 1)).set ((shp L).B k) (((cnts L k).set ((shp L).A k) ((cnts L k).getD ((shp L).A k) 0 + 1)).getD ((shp L).B k) 0 + 1) = cnts L (k + 1) := by
  rw [cnts_get ha]
  apply List.ext_getElem
  · simp [cnts]
  · intro j h1 h2
    have hj : j < L.length := by simpa [cnts] using h2
    simp only [List.getElem_set, List.getD]
    simp only [cnts, List.getElem_map, List.getElem_range, cnt, h, true_and]
    have hbs : (((List.map (fun j => cnt (shp L) j k) (List.range L.length)).set ((shp L).A k) (cnt (shp L) ((shp L).A k) k + 1))[(shp L).B k]?.getD 0) = cnt (shp L) ((shp L).B k) k + (if (shp L).A k = (shp L).B k then 1 else 0) := by
      rw [List.getElem?_set]
      by_cases e : (shp L).A k = (shp L).B k
      · rw [if_pos e, if_pos (by simpa using ha), if_pos e]; simp [e]
      · rw [if_neg e, if_neg e]; simp [hb]
    rw [hbs]
    by_cases e1 : (shp L).B k = j
    · rw [if_pos e1, if_pos e1, e1]
    · rw [if_neg e1, if_neg e1]
      by_cases e2 : (shp L).A k = j
      · rw [if_pos e2, if_pos e2, e2]
      · rw [if_neg e2, if_neg e2]; simp
end Go.Proofs.Ytaogjiffnebnkaa.Mk
set_option linter.unusedVariables false
set_option linter.unusedSimpArgs false
namespace Go.Proofs.Ytaogjiffnebnkaa.Mk
open Go.RowKit Go.Shelf
attribute [local go_sem] Oper.semAt_some
/-- Node i is not below just one, once, or is not reached. -/
def misB (L : List Nd) (i : Nat) : Bool := !(cnt (shp L) i L.length == 1 && decide (i ∈ ord (shp L) L.length))
/-- The first such one from k on; 0, if there is none. -/
def misF (L : List Nd) : Nat → Nat → Nat
  | 0, _ => 0
  | f + 1, k => if misB L k then k else misF L f (k + 1)
theorem neq_set (W : World) (g j : Nat) (v : Value) : ∀ k, k ≠ g → (W.setCell ⟨g, j, none⟩ v).heap[k]? = W.heap[k]? := fun k hk => Below.heap_setCell _ _ _ _ (by simpa using hk)
theorem cnt_le (t : Sh) (j : Nat) : ∀ m, cnt t j m ≤ 2 * m
  | 0 => by simp [cnt]
  | m + 1 => by
    have := cnt_le t j m
    rw [cnt]
    split <;> split <;> omega
theorem RdN.rdB {w : World} {a : Option Addr} {L : List Nd} (h : RdN w a L) : RdB w.heap.size w a L := by
  intro j hj
  obtain ⟨b, o, ca, cap, e, hc⟩ := h j hj
  exact ⟨b, o, e, World.block_lt_of_cell? w _ hc.c0, hc.c0, hc.c6, hc.c7⟩
set_option maxRecDepth 100000 in
set_option maxHeartbeats 2000000 in
theorem misplaced_in (n : Nat) (hn : 3 ≤ n) (a : Option Addr) (cap : Nat) (L : List Nd) (hLn : L.length ≤ 2199023255552) (hR : Rgt L) (w : World) (hrd : RdN w a L) :
    CallsIn Fence.wide n Try.prog 121 #[.slice a L.length cap] w fun e w' => e = .returned (.int .i64 (misF L (L.length - 1) 1 : Nat)) ∧ Below w.heap.size w w' := by
  have hlen : L.length ≤ 17592186044416 := by omega
  have h1 : 1 ≤ n := by omega
  have hB := hrd.rdB
  have W0 : ∃ W0, ((w.alloc (Obj.cells (UI (List.replicate L.length 0)).toArray 3)).alloc (Obj.cells (UB (List.replicate L.length false)).toArray 4)).alloc (Obj.cells #[Value.slice (some { block := w.heap.size + 1, off := 0 }) L.length L.length] 48) = W0 ∧
      RowI W0 w.heap.size (cnts L 0) ∧ RowB W0 (w.heap.size + 1) (mets L.length []) ∧ W0.heap[w.heap.size + 1 + 1]? = some (Obj.cells #[Value.slice (some { block := w.heap.size + 1, off := 0 }) L.length L.length] 48 (0, 0)) ∧ Below w.heap.size w W0 ∧ W0.heap.size = w.heap.size + 3 := by
    refine ⟨_, rfl, ?_, ?_, ?_, ?_, by simp⟩
    · unfold RowI
      rw [cnts_zero]
      exact (Below.heap_alloc _ _ _ (by simp; omega)).trans ((Below.heap_alloc _ _ _ (by simp)).trans (heap_alloc_new w _))
    · unfold RowB
      rw [mets_nil]
      have := heap_alloc_new (w.alloc (Obj.cells (UI (List.replicate L.length 0)).toArray 3)) (Obj.cells (UB (List.replicate L.length false)).toArray 4)
      rw [World.size_alloc] at this
      exact (Below.heap_alloc _ _ _ (by simp)).trans this
    · have := heap_alloc_new ((w.alloc (Obj.cells (UI (List.replicate L.length 0)).toArray 3)).alloc (Obj.cells (UB (List.replicate L.length false)).toArray 4)) (Obj.cells #[Value.slice (some { block := w.heap.size + 1, off := 0 }) L.length L.length] 48)
      rw [World.size_alloc, World.size_alloc] at this
      exact this
    · exact (((Below.refl _ w).alloc (Nat.le_refl _) _).alloc (by simp) _).alloc (by simp; omega) _
  obtain ⟨W0, hW0, R0, M0, B0, K0, S0⟩ := W0
  refine callsIn_of_wp_marks Try.func121 rfl trivial ?_ rfl
  simp only [Try.ntmps121, List.size_toArray, List.length_cons, List.length_nil, Nat.reduceAdd, Nat.reduceSub, Array.replicate_succ, Array.replicate_zero, List.push_toArray, List.append_toArray, List.nil_append, List.cons_append]
  gi_wp2_with (first | (gi_at_make; refine wpListIn_makeI _ rfl _ _ rfl _ _ _ _ L.length rfl rfl rfl rfl hlen ?_) | (gi_at_make; refine wpListIn_makeB _ rfl _ _ rfl _ _ _ _ L.length rfl rfl rfl rfl hlen ?_))
  clear hW0
  gi_loopw [17] (fun iv wr => ∃ k : Nat, k ≤ L.length ∧ iv = .int .i64 k ∧ RowI wr w.heap.size (cnts L k) ∧ RowB wr (w.heap.size + 1) (mets L.length []) ∧ wr.heap[w.heap.size + 1 + 1]? = some (Obj.cells #[Value.slice (some { block := w.heap.size + 1, off := 0 }) L.length L.length] 48 (0, 0)) ∧ Below w.heap.size w wr ∧ wr.heap.size = w.heap.size + 3) (fun iv _ => L.length - (intOf iv).toNat)
  case atStart => exact ⟨0, by omega, rfl, R0, M0, B0, K0, S0⟩
  case round =>
    obtain ⟨k, hk, rfl, R1, M1, B1, K1, S1⟩ := hrel
    clear R0 M0 B0 K0
    by_cases hkl : k < L.length
    · obtain ⟨b, o, rfl, hb, c0, c6, c7⟩ := (hB.same (w' := wr) (fun g hg => K1.block g hg)) k hkl
      have hkc : (k : Int) < (L.length : Int) := by omega
      have hK : (shp L).K k = decide ((L.getD k nd0).kd = 2 ∨ (L.getD k nd0).kd = 3) := rfl
      have hin := isInner_any (L.getD k nd0).kd
      rw [← hK] at hin
      by_cases hki : (shp L).K k = true
      · obtain ⟨⟨e6, l6, p6⟩, ⟨e7, l7, p7⟩⟩ := hR.kids hkl hki
        rw [e6] at c6
        rw [e7] at c7
        rw [hki] at hin
        have HC : Hid _ := cnts_inner hki l6 l7
        have cA := R1.cell ((shp L).A k) (by rw [cnts_len]; exact l6)
        have fA := R1.frozen ((shp L).A k)
        have RA := R1.set ((shp L).A k) ((cnts L k).getD ((shp L).A k) 0 + 1)
        have cB := RA.cell ((shp L).B k) (by rw [List.length_set, cnts_len]; exact l7)
        have fB := RA.frozen ((shp L).B k)
        have RBB := RA.set ((shp L).B k) (((cnts L k).set ((shp L).A k) ((cnts L k).getD ((shp L).A k) 0 + 1)).getD ((shp L).B k) 0 + 1)
        have nA := neq_set wr w.heap.size ((shp L).A k) (.int .i64 (((cnts L k).getD ((shp L).A k) 0 + 1 : Nat) : Int))
        have nB := neq_set (wr.setCell ⟨w.heap.size, (shp L).A k, none⟩ (.int .i64 (((cnts L k).getD ((shp L).A k) 0 + 1 : Nat) : Int))) w.heap.size ((shp L).B k) (.int .i64 ((((cnts L k).set ((shp L).A k) ((cnts L k).getD ((shp L).A k) 0 + 1)).getD ((shp L).B k) 0 + 1 : Nat) : Int))
        have HF : Hid (RowI ((wr.setCell ⟨w.heap.size, (shp L).A k, none⟩ (.int .i64 (((cnts L k).getD ((shp L).A k) 0 + 1 : Nat) : Int))).setCell ⟨w.heap.size, (shp L).B k, none⟩ (.int .i64 ((((cnts L k).set ((shp L).A k) ((cnts L k).getD ((shp L).A k) 0 + 1)).getD ((shp L).B k) 0 + 1 : Nat) : Int))) w.heap.size (cnts L (k + 1))) := by
          show RowI _ _ _
          rw [← HC.out]
          exact RBB
        have bA : (cnts L k).getD ((shp L).A k) 0 ≤ 4398046511104 := by rw [cnts_get l6]; have := cnt_le (shp L) ((shp L).A k) k; omega
        have bB : ((cnts L k).set ((shp L).A k) ((cnts L k).getD ((shp L).A k) 0 + 1)).getD ((shp L).B k) 0 ≤ 4398046511105 := by
          simp only [List.getD, List.getElem?_set]
          simp only [List.getD] at bA
          split
          · split
            · simp; omega
            · simp
          · have := cnts_get (k := k) l7
            have h2 := cnt_le (shp L) ((shp L).B k) k
            simp only [List.getD] at this
            omega
        have HM : Hid (RowB ((wr.setCell ⟨w.heap.size, (shp L).A k, none⟩ (.int .i64 (((cnts L k).getD ((shp L).A k) 0 + 1 : Nat) : Int))).setCell ⟨w.heap.size, (shp L).B k, none⟩ (.int .i64 ((((cnts L k).set ((shp L).A k) ((cnts L k).getD ((shp L).A k) 0 + 1)).getD ((shp L).B k) 0 + 1 : Nat) : Int))) (w.heap.size + 1) (mets L.length [])) := by
          show RowB _ _ _
          unfold RowB
          rw [nB _ (by omega), nA _ (by omega)]
          exact M1
        have HBx : Hid (((wr.setCell ⟨w.heap.size, (shp L).A k, none⟩ (.int .i64 (((cnts L k).getD ((shp L).A k) 0 + 1 : Nat) : Int))).setCell ⟨w.heap.size, (shp L).B k, none⟩ (.int .i64 ((((cnts L k).set ((shp L).A k) ((cnts L k).getD ((shp L).A k) 0 + 1)).getD ((shp L).B k) 0 + 1 : Nat) : Int))).heap[w.heap.size + 1 + 1]? = some (Obj.cells #[Value.slice (some { block := w.heap.size + 1, off := 0 }) L.length L.length] 48 (0, 0))) := by
          show _ = _
          rw [nB _ (by omega), nA _ (by omega)]
          exact B1
        have KK := (K1.setCell (p := ⟨w.heap.size, (shp L).A k, none⟩) (Nat.le_refl _) (.int .i64 (((cnts L k).getD ((shp L).A k) 0 + 1 : Nat) : Int))).setCell (p := ⟨w.heap.size, (shp L).B k, none⟩) (Nat.le_refl _) (.int .i64 ((((cnts L k).set ((shp L).A k) ((cnts L k).getD ((shp L).A k) 0 + 1)).getD ((shp L).B k) 0 + 1 : Nat) : Int))
        have c7A : ∀ v, (wr.setCell ⟨w.heap.size, (shp L).A k, none⟩ v).cell? ⟨b, o + k * 8 + 7, none⟩ = some (.int .i64 ((shp L).B k : Nat)) := fun v => by
          rw [World.cell?_of_block (a := ⟨b, o + k * 8 + 7, none⟩) (neq_set wr w.heap.size ((shp L).A k) v b (by omega))]; exact c7
        clear HC RA RBB nA nB e6 e7 hK
        generalize ((cnts L k).set ((shp L).A k) ((cnts L k).getD ((shp L).A k) 0 + 1)).getD ((shp L).B k) 0 = xb at *
        generalize (cnts L k).getD ((shp L).A k) 0 = xa at *
        generalize (shp L).A k = ai at *
        generalize (shp L).B k = bi at *
        generalize (L.getD k nd0).kd = kd at *
        push_cast at cB fB HF HM HBx KK
        have SZ : Hid (((wr.setCell ⟨w.heap.size, ai, none⟩ (.int .i64 ((xa : Int) + 1))).setCell ⟨w.heap.size, bi, none⟩ (.int .i64 ((xb : Int) + 1))).heap.size = w.heap.size + 3) := by show _ = _; simp [S1]
        gi_wp2_with (refine ⟨trivial, ?_⟩; gi_at_call 94; refine (callsIn_wide.2 (hin _)).mono ?_; rintro e w' ⟨rfl, hw'⟩; have hw2 := hw'.symm; subst hw2)
        go_roundw
        case rel => exact ⟨k + 1, by omega, by go_num, HF.out, HM.out, HBx.out, KK, SZ.out⟩
        case measure => simp [intOf]; omega
      · have hkf : (shp L).K k = false := by simpa using hki
        rw [hkf] at hin
        have HR : Hid (RowI wr w.heap.size (cnts L (k + 1))) := by show RowI _ _ _; rw [cnts_leaf hkf]; exact R1
        generalize (L.getD k nd0).kd = kd at *
        clear hK hki hkf R1
        gi_wp2_with (refine ⟨trivial, ?_⟩; gi_at_call 94; refine (callsIn_wide.2 (hin _)).mono ?_; rintro e w' ⟨rfl, hw'⟩; have hw2 := hw'.symm; subst hw2)
        go_roundw
        case rel => exact ⟨k + 1, by omega, by go_num, HR.out, M1, B1, K1, S1⟩
        case measure => simp [intOf]; omega
    · have hkc : ¬ (k : Int) < (L.length : Int) := by omega
      obtain rfl : k = L.length := by omega
      gi_wp2_with (refine ⟨trivial, ?_⟩; gi_at_call 111; refine (reached_in (n - 1) _ _ _ _).mono ?_; rintro e w' ⟨rfl, rfl⟩)
      have kA : Below w.heap.size w (wr.alloc (Obj.cells #[Value.slice a L.length cap] 52)) := K1.alloc (by omega) _
      have sA : (wr.alloc (Obj.cells #[Value.slice a L.length cap] 52)).heap.size = w.heap.size + 4 := by simp [S1]
      have bA : (wr.alloc (Obj.cells #[Value.slice a L.length cap] 52)).cell? ⟨w.heap.size + 3, 0, none⟩ = some (.slice a L.length cap) := by
        have := heap_alloc_new wr (Obj.cells #[Value.slice a L.length cap] 52)
        rw [S1] at this
        rw [cell_of_row _ _ 0 _ 52 (0, 0) this]
        rfl
      have oldA : ∀ g, g < w.heap.size + 3 → (wr.alloc (Obj.cells #[Value.slice a L.length cap] 52)).heap[g]? = wr.heap[g]? := fun g hg => Below.heap_alloc _ _ _ (by omega)
      have RA : RowI (wr.alloc (Obj.cells #[Value.slice a L.length cap] 52)) w.heap.size (cnts L L.length) := by unfold RowI; rw [oldA _ (by omega)]; exact R1
      have MA : RowB (wr.alloc (Obj.cells #[Value.slice a L.length cap] 52)) (w.heap.size + 1) (mets L.length []) := by unfold RowB; rw [oldA _ (by omega)]; exact M1
      have XA : (wr.alloc (Obj.cells #[Value.slice a L.length cap] 52)).heap[w.heap.size + 1 + 1]? = some (Obj.cells #[Value.slice (some ⟨w.heap.size + 1, 0, none⟩) L.length L.length] 48 (0, 0)) := by rw [oldA _ (by omega)]; exact B1
      have rdA : RdB w.heap.size (wr.alloc (Obj.cells #[Value.slice a L.length cap] 52)) a L := hB.same (fun g hg => kA.block g hg)
      generalize wr.alloc (Obj.cells #[Value.slice a L.length cap] 52) = w1 at *
      clear oldA R1 M1 B1 K1 S1
      refine wp_rangeT h1 (gf := 122) (lb := #[.pointer (some ⟨w.heap.size + 3, 0, none⟩)]) rfl (enters_of Try.func122 (by kernel_rfl) rfl)
        (reach_seq (n - 1) (by omega) (w.heap.size + 3) w.heap.size a cap L hLn hR w1 bA (by omega) (by omega) rdA) (Below.refl _ _) (fun _ => rfl) (by omega) (fun g hg => by omega)
        (fun pre T W => RowI W w.heap.size (cnts L L.length) ∧ RowB W (w.heap.size + 1) (mets L.length (nums pre)) ∧ W.heap[w.heap.size + 1 + 1]? = some (Obj.cells #[Value.slice (some ⟨w.heap.size + 1, 0, none⟩) L.length L.length] 48 (0, 0)) ∧ (∀ g, T g → w.heap.size + 3 ≤ g) ∧ Below w.heap.size w W ∧ w.heap.size + 4 ≤ W.heap.size)
        (fun _ _ _ => False) ?st ?put (fun _ _ _ _ _ h => h.elim) ?start (fun x => { tmps := #[Value.slice a L.length cap, undef, Value.int IntKind.i64 0, Value.slice (some ⟨w.heap.size, 0, none⟩) L.length L.length, Value.pointer (some ⟨w.heap.size + 1 + 1, 0, none⟩), u5, u6, Value.int .i64 ((x.val : Nat) : Int), undef, Value.slice a L.length cap, Value.int IntKind.i64 (L.length : Nat), Value.slice (some ⟨w.heap.size, 0, none⟩) L.length L.length, Value.slice a L.length cap, Value.int IntKind.i64 (L.length : Nat), Value.slice (some ⟨w.heap.size + 1, 0, none⟩) L.length L.length, Value.slice a L.length cap, Value.int IntKind.i64 (L.length : Nat), Value.int IntKind.i64 (L.length : Nat), Value.bool false, u19, u20, u21, u22, u23, u24, u25, u26, u27, u28, u29, u30, u31, u32, u33, u34, u35, u36, u37, u38, u39, u40, u41, u42, u43, u44, u45, u46, Value.slice a L.length cap, Value.func (Fn.func 122) #[] #[Value.pointer (some ⟨w.heap.size + 3, 0, none⟩)], Value.int .i64 ((x.val : Nat) : Int), undef, undef, undef, undef, undef, undef, undef, undef, undef, undef, undef, undef, undef, undef, undef, undef, undef, undef, undef, undef, undef, undef], defers := [] }) ?assign ?body ?done (fun _ _ _ _ h => h.elim)
      case st =>
        rintro pre T A B ⟨q1, q2, q3, q4, q5, q6⟩ hst
        have kp : ∀ g, g < w.heap.size + 3 → B.heap[g]? = A.heap[g]? := fun g hg => hst.block g (by omega) (fun h => by have := q4 g h; omega)
        refine ⟨by unfold RowI; rw [kp _ (by omega)]; exact q1, by unfold RowB; rw [kp _ (by omega)]; exact q2, by rw [kp _ (by omega)]; exact q3, ?_, ?_, by have := hst.size; omega⟩
        · rintro g (h | h)
          · exact q4 g h
          · omega
        · exact ⟨hst.os.trans q5.os, hst.tape.trans q5.tape, hst.output.trans q5.output, by have := hst.size; have := q5.size; omega, fun g hg => (kp g (by omega)).trans (q5.block g hg)⟩
      case put =>
        rintro pre T A r o' ⟨q1, q2, q3, q4, q5, q6⟩ h1 h2 h3
        have kp : ∀ g, g < w.heap.size + 3 → (A.putObj r o').heap[g]? = A.heap[g]? := fun g hg => World.putObj_heap_other (by omega)
        refine ⟨by unfold RowI; rw [kp _ (by omega)]; exact q1, by unfold RowB; rw [kp _ (by omega)]; exact q2, by rw [kp _ (by omega)]; exact q3, q4, ?_, by simpa using q6⟩
        exact ⟨q5.os, q5.tape, q5.output, by simpa using q5.size, fun g hg => (kp g (by omega)).trans (q5.block g hg)⟩
      case start =>
        intro W hst
        have kp : ∀ g, g < w.heap.size + 4 → W.heap[g]? = w1.heap[g]? := fun g hg => hst.block g (by omega) (fun h => h)
        refine ⟨by unfold RowI; rw [kp _ (by omega)]; exact RA, by unfold RowB; rw [kp _ (by omega)]; exact MA, by rw [kp _ (by omega)]; exact XA, fun g hg => by omega, ?_, by have := hst.size; omega⟩
        exact ⟨hst.os.trans kA.os, hst.tape.trans kA.tape, hst.output.trans kA.output, by have := hst.size; have := kA.size; omega, fun g hg => (kp g (by omega)).trans (kA.block g hg)⟩
      case assign =>
        intro l x W K hK
        gi_wp2
        exact hK
      case body =>
        rintro l pre ⟨x, hx⟩ T W ⟨q1, q2, q3, q4, q5, q6⟩ hpl hT hsz
        have cb : W.cell? ⟨w.heap.size + 1 + 1, 0, none⟩ = some (.slice (some ⟨w.heap.size + 1, 0, none⟩) L.length L.length) := by rw [cell_of_row _ _ 0 _ 48 (0, 0) q3]; rfl
        have cx := q2.cell x (by rw [mets_len]; exact hx)
        have fx := q2.frozen x
        have rx := q2.set x true
        rw [mets_set hx] at rx
        have hxc : (x : Int) < (L.length : Int) := by omega
        have ne := neq_set W (w.heap.size + 1) x (.bool true)
        obtain ⟨y, hy⟩ : ∃ y, (mets L.length (nums pre)).getD x false = y := ⟨_, rfl⟩
        rw [hy] at cx
        clear hy q2
        simp only at *
        gi_wp2
        unfold postT
        refine ⟨⟨ne _ (by omega), ne _ (by omega)⟩, ⟨rfl, rfl, rfl, by simp, fun g hg h => ne g (by rcases h with h | h; omega; have := q4 g h; omega)⟩, ?_, ?_, ?_, q4, ?_, by simpa using q6⟩
        · unfold RowI; rw [ne _ (by omega)]; exact q1
        · rw [show nums (pre ++ [⟨x, hx⟩]) = nums pre ++ [x] by simp [nums]]; exact rx
        · rw [ne _ (by omega)]; exact q3
        · exact q5.setCell (p := ⟨w.heap.size + 1, x, none⟩) (by show w.heap.size ≤ w.heap.size + 1; omega) _
      case done =>
        rintro xs T W hxs ⟨q1, q2, q3, q4, q5, q6⟩ hD
        rw [hxs] at q2
        rw [sA] at hD ⊢
        gi_wp2
        gi_loopw [8] (fun iv wr => ∃ k : Nat, 1 ≤ k ∧ k ≤ L.length ∧ iv = .int .i64 k ∧ wr = W ∧ Hid (misF L (L.length - 1) 1 = misF L (L.length - k) k)) (fun iv _ => L.length - (intOf iv).toNat)
        case atStart => exact ⟨1, by omega, hR.1, rfl, rfl, rfl⟩
        case round =>
          obtain ⟨k, hk1, hkn, rfl, hwr, hmis⟩ := hrel
          subst hwr
          by_cases hkl : k < L.length
          · have ca := q1.cell k (by rw [cnts_len]; exact hkl)
            rw [cnts_get hkl] at ca
            have cm := q2.cell k (by rw [mets_len]; exact hkl)
            rw [mets_get hkl] at cm
            have cb : wr.cell? ⟨w.heap.size + 1 + 1, 0, none⟩ = some (.slice (some ⟨w.heap.size + 1, 0, none⟩) L.length L.length) := by rw [cell_of_row _ _ 0 _ 48 (0, 0) q3]; rfl
            have hkc : (k : Int) < (L.length : Int) := by omega
            have hstep : misF L (L.length - k) k = if misB L k then k else misF L (L.length - (k + 1)) (k + 1) := by
              rw [show L.length - k = (L.length - (k + 1)) + 1 by omega, misF]
            have hmb : misB L k = !(cnt (shp L) k L.length == 1 && decide (k ∈ ord (shp L) L.length)) := rfl
            by_cases hc1 : cnt (shp L) k L.length = 1
            · by_cases ho : k ∈ ord (shp L) L.length
              · have HM : Hid (misF L (L.length - 1) 1 = misF L (L.length - (k + 1)) (k + 1)) := by
                  show _ = _
                  rw [hmis.out, hstep, hmb, hc1, decide_eq_true ho]
                  rfl
                rw [hc1] at ca
                rw [decide_eq_true ho] at cm
                clear hstep hmb hmis hc1 ho
                gi_wp2
                go_roundw
                case rel => exact ⟨k + 1, by omega, by omega, by go_num, trivial, HM⟩
                case measure => simp [intOf]; omega
              · have HM : Hid (misF L (L.length - 1) 1 = k) := by
                  show _ = _
                  rw [hmis.out, hstep, hmb, hc1, decide_eq_false ho]
                  rfl
                rw [hc1] at ca
                rw [decide_eq_false ho] at cm
                clear hstep hmb hmis hc1 ho
                gi_wp2
                refine ⟨by simp, .inl ⟨_, _, rfl, run_takeDeferred hD, ?_⟩⟩
                exact ⟨_, results_tmp rfl _ _ _, by rw [HM.out]; rfl, q5.trans (belowK_b (w := w) (Nat.le_refl _) wr (w.heap.size + 4) _ _ (by omega) hD rfl rfl)⟩
            · have HM : Hid (misF L (L.length - 1) 1 = k) := by
                show _ = _
                rw [hmis.out, hstep, hmb, show (cnt (shp L) k L.length == 1) = false by rw [beq_eq_false_iff_ne]; exact hc1]
                rfl
              have hci : ¬ ((cnt (shp L) k L.length : Nat) : Int) = 1 := by omega
              generalize cnt (shp L) k L.length = cc at *
              clear hstep hmb hmis
              gi_wp2
              refine ⟨by simp, .inl ⟨_, _, rfl, run_takeDeferred hD, ?_⟩⟩
              exact ⟨_, results_tmp rfl _ _ _, by rw [HM.out]; rfl, q5.trans (belowK_b (w := w) (Nat.le_refl _) wr (w.heap.size + 4) _ _ (by omega) hD rfl rfl)⟩
          · have HM : Hid (misF L (L.length - 1) 1 = 0) := by
              show _ = _
              rw [hmis.out, show L.length - k = 0 by omega]
              rfl
            have hkc : ¬ (k : Int) < (L.length : Int) := by omega
            gi_wp2
            refine ⟨by simp, .inl ⟨_, _, rfl, run_takeDeferred hD, ?_⟩⟩
            exact ⟨_, results_tmp rfl _ _ _, by rw [HM.out]; rfl, q5.trans (belowK_b (w := w) (Nat.le_refl _) wr (w.heap.size + 4) _ _ (by omega) hD rfl rfl)⟩
end Go.Proofs.Ytaogjiffnebnkaa.Mk
set_option linter.unusedVariables false
set_option linter.unusedSimpArgs false
namespace Go.Proofs.Ytaogjiffnebnkaa.Mk
open Go.RowKit Go.Shelf
/-- The first node that is not right. -/
def badF (L : List Nd) : Nat → Nat → Option Nat
  | 0, _ => none
  | f + 1, k => if rightB (L.getD k nd0) L.length then badF L f (k + 1) else some k
/-- What Shape answers. -/
def shE (L : List Nd) : Int := if L.length = 0 then 70 else match badF L L.length 0 with
  | some _ => 71
  | none => if misF L (L.length - 1) 1 = 0 then 0 else 70
def shI (L : List Nd) : Nat := if L.length = 0 then 0 else match badF L L.length 0 with
  | some i => i
  | none => misF L (L.length - 1) 1
theorem badF_none {L : List Nd} : ∀ (f k : Nat), badF L f k = none → ∀ i, k ≤ i → i < k + f → rightB (L.getD i nd0) L.length = true
  | 0, k, _, i, h1, h2 => by omega
  | f + 1, k, h, i, h1, h2 => by
    rw [badF] at h
    split at h
    · rename_i hr
      by_cases e : i = k
      · subst e; exact hr
      · exact badF_none f (k + 1) h i (by omega) (by omega)
    · cases h
set_option maxRecDepth 100000 in
set_option maxHeartbeats 1000000 in
theorem Shape_any (w : World) (a : Option Addr) (cap : Nat) (out : Int) (L : List Nd) (hLn : L.length ≤ 2199023255552) (hrd : RdN w a L) :
    Calls Try.prog 110 #[.agg #[.int .i64 out, .slice a L.length cap]] w fun e w' => e = .returned (.tuple #[.int .i64 (shE L), .int .i64 (shI L : Nat)]) ∧ Keep w w' := by
  by_cases hL0 : L.length = 0
  · have HE : Hid (shE L = 70 ∧ shI L = 0) := by unfold shE shI; exact ⟨if_pos hL0, if_pos hL0⟩
    rw [hL0]
    go_enter Try.func110, Try.ntmps110
    go_wp2_with fail
    go_ret2
    rw [HE.out.1, HE.out.2]
    exact ⟨rfl, (Keep.refl _).alloc _⟩
  · have hg0 : ((L.length : Int) == 0) = false := by rw [beq_eq_false_iff_ne]; omega
    have hg1 : ¬ L = [] := fun h => hL0 (by rw [h]; rfl)
    have HE : Hid (shE L = (match badF L L.length 0 with
      | some _ => 71
      | none => if misF L (L.length - 1) 1 = 0 then 0 else 70) ∧ shI L = (match badF L L.length 0 with
      | some i => i
      | none => misF L (L.length - 1) 1)) := by unfold shE shI; exact ⟨if_neg hL0, if_neg hL0⟩
    have k0 : Keep w (w.alloc (Obj.cells #[Value.int IntKind.i64 out, Value.slice a L.length cap] 54)) := (Keep.refl w).alloc _
    have c0 : (w.alloc (Obj.cells #[Value.int IntKind.i64 out, Value.slice a L.length cap] 54)).cell? ⟨w.heap.size, 1, none⟩ = some (.slice a L.length cap) := by
      rw [cell_of_row _ _ 1 _ 54 (0, 0) (heap_alloc_new w _)]; rfl
    go_enter Try.func110, Try.ntmps110
    go_wp2_with fail
    generalize w.alloc _ = w1 at k0 c0 ⊢
    generalize w.heap.size = s at c0 ⊢
    go_loopw [13] (fun iv wr => ∃ k : Nat, k ≤ L.length ∧ iv = .int .i64 k ∧ Keep w wr ∧ wr.cell? ⟨s, 1, none⟩ = some (.slice a L.length cap) ∧ Hid (badF L L.length 0 = badF L (L.length - k) k)) (fun iv _ => L.length - (intOf iv).toNat)
    case atStart => exact ⟨0, by omega, rfl, k0, c0, rfl⟩
    case round =>
      obtain ⟨k, hk, rfl, kw, cw, hbad⟩ := hrel
      clear k0 c0
      by_cases hkl : k < L.length
      · have hkc : (k : Int) < (L.length : Int) := by omega
        obtain ⟨b, o, ca, cp, rfl, hnd⟩ := (hrd.keep kw) k hkl
        have hr := fun (wx : World) (e : Keep wr wx) => isRight_any wx (L.getD k nd0) b (o + k * 8) L.length ca cp (hnd.keep e)
        have hstep : badF L (L.length - k) k = if rightB (L.getD k nd0) L.length then badF L (L.length - (k + 1)) (k + 1) else some k := by
          rw [show L.length - k = (L.length - (k + 1)) + 1 by omega, badF]
        have kd : Keep wr wr.drew := (Keep.refl wr).drew
        by_cases hrt : rightB (L.getD k nd0) L.length = true
        · have HB : Hid (badF L L.length 0 = badF L (L.length - (k + 1)) (k + 1)) := by show _ = _; rw [hbad.out, hstep, if_pos hrt]
          rw [hrt] at hr
          clear hstep hbad hnd
          go_wp2_with fail
          go_region_with (go_at_call 120; refine (hr _ kd).mono ?_; rintro e w' ⟨rfl, rfl⟩)
          all_goals
            go_simp
            go_wp2_with fail
            go_roundw
            case rel => exact ⟨k + 1, by omega, by go_num, kw.drew, cw, HB⟩
            case measure => simp [intOf]; omega
        · have hrf : rightB (L.getD k nd0) L.length = false := by simpa using hrt
          have HB : Hid (badF L L.length 0 = some k) := by show _ = _; rw [hbad.out, hstep, hrf]; rfl
          rw [hrf] at hr
          clear hstep hbad hnd hrt hrf
          go_wp2_with fail
          go_region_with (go_at_call 120; refine (hr _ kd).mono ?_; rintro e w' ⟨rfl, rfl⟩)
          all_goals
            go_simp
            go_wp2_with fail
            go_ret2
            have H := HE.out
            rw [HB.out] at H
            rw [H.1, H.2]
            exact ⟨rfl, kw.drew⟩
      · have hkc : ¬ (k : Int) < (L.length : Int) := by omega
        have HB : Hid (badF L L.length 0 = none) := by show _ = _; rw [hbad.out, show L.length - k = 0 by omega]; rfl
        have hR : Rgt L := ⟨by omega, fun i hi => badF_none _ _ HB.out i (by omega) (by omega)⟩
        have hM := (callsIn_wide (n := 3)).1 (misplaced_in 3 (by omega) a cap L hLn hR wr (hrd.keep kw))
        clear hbad
        obtain ⟨m, hm⟩ : ∃ m, misF L (L.length - 1) 1 = m := ⟨_, rfl⟩
        rw [hm] at hM
        have HM : Hid (misF L (L.length - 1) 1 = m) := hm
        clear hm
        by_cases hm0 : m = 0
        · subst hm0
          go_wp2_with (go_at_call 121; refine hM.mono ?_; rintro e w2 ⟨rfl, k2⟩)
          go_ret2
          have H := HE.out
          rw [HB.out] at H
          simp only [HM.out, if_true] at H
          rw [H.1, H.2]
          exact ⟨rfl, kw.trans k2⟩
        · have hmi : ((m : Int) == 0) = false := by rw [beq_eq_false_iff_ne]; omega
          go_wp2_with (go_at_call 121; refine hM.mono ?_; rintro e w2 ⟨rfl, k2⟩)
          go_ret2
          have H := HE.out
          rw [HB.out] at H
          simp only [HM.out, if_neg hm0] at H
          rw [H.1, H.2]
          exact ⟨rfl, kw.trans k2⟩
end Go.Proofs.Ytaogjiffnebnkaa.Mk
set_option linter.unusedVariables false
set_option linter.unusedSimpArgs false
namespace Go.Proofs.Ytaogjiffnebnkaa.Mk
open Go.RowKit Go.Shelf
attribute [local go_sem] Oper.semAt_some
theorem Shape_in (n : Nat) (w : World) (a : Option Addr) (cap : Nat) (out : Int) (L : List Nd) (hLn : L.length ≤ 2199023255552) (hrd : RdN w a L) :
    CallsIn Fence.wide n Try.prog 110 #[.agg #[.int .i64 out, .slice a L.length cap]] w fun e w' => e = .returned (.tuple #[.int .i64 (shE L), .int .i64 (shI L : Nat)]) ∧ Keep w w' := callsIn_wide.2 (Shape_any w a cap out L hLn hrd)
/-- Shape is content: all nodes are right, and they are a tree. -/
theorem shE_rgt {L : List Nd} (h : shE L = 0) : Rgt L := by
  unfold shE at h
  split at h
  · cases h
  · rename_i h0
    refine ⟨by omega, ?_⟩
    cases hb : badF L L.length 0 with
    | some i => rw [hb] at h; cases h
    | none => exact fun i hi => badF_none _ _ hb i (by omega) (by omega)
/-- A list that is gathered in a box while an iterator runs. -/
structure Col (Bl Bs : Nat) (w3 : World) (l : List Nat) (T : Nat → Prop) (W : World) : Prop where
  box : ∃ v, W.heap[Bl]? = some (.cells #[v] 55 (0, 0)) ∧ OwnI W v l ∧ ∀ b, v.ownBlock = some b → ¬ T b ∧ Bs + 3 ≤ b
  tb : ∀ g, T g → Bs ≤ g ∧ g < W.heap.size
  be : Below Bl w3 W
  sz : Bs + 1 ≤ W.heap.size
theorem Col.st {Bl Bs : Nat} {w3 : World} {l : List Nat} {T : Nat → Prop} {A B : World} (hB : Bl < Bs) (h : Col Bl Bs w3 l T A) (hst : Stp T A B) : Col Bl Bs w3 l (more T A B) B := by
  obtain ⟨⟨v, h1, h2, h3⟩, h4, h5, h6⟩ := h
  have kp : ∀ g, g < Bs → g < A.heap.size → B.heap[g]? = A.heap[g]? := fun g hg hz => hst.block g hz (fun h => by have := h4 g h; omega)
  refine ⟨⟨v, ?_, ?_, ?_⟩, ?_, ?_, by have := hst.size; omega⟩
  · rw [kp Bl hB (by omega)]; exact h1
  · refine h2.same (fun b hb => ?_)
    obtain ⟨cur, hc⟩ := h2.block hb
    exact hst.block b (Array.getElem?_eq_some_iff.1 hc).1 (h3 b hb).1
  · intro b hb
    obtain ⟨cur, hc⟩ := h2.block hb
    have hlt := (Array.getElem?_eq_some_iff.1 hc).1
    refine ⟨?_, (h3 b hb).2⟩
    rintro (h | h)
    · exact (h3 b hb).1 h
    · omega
  · rintro g (h | h)
    · have := h4 g h; have := hst.size; omega
    · omega
  · exact ⟨hst.os.trans h5.os, hst.tape.trans h5.tape, hst.output.trans h5.output, by have := hst.size; have := h5.size; omega, fun g hg => (kp g (by omega) (by omega)).trans (h5.block g hg)⟩
theorem Col.put {Bl Bs : Nat} {w3 : World} {l : List Nat} {T : Nat → Prop} {A : World} {r : Nat} {o' : Obj} (hB : Bl < Bs) (h : Col Bl Bs w3 l T A) (h1 : Bs + 1 ≤ r) (h2 : r < Bs + 3) : Col Bl Bs w3 l T (A.putObj r o') := by
  obtain ⟨⟨v, q1, q2, q3⟩, q4, q5, q6⟩ := h
  have kp : ∀ g, g ≠ r → (A.putObj r o').heap[g]? = A.heap[g]? := fun g hg => World.putObj_heap_other hg
  refine ⟨⟨v, ?_, ?_, q3⟩, by simpa using q4, ?_, by simpa using q6⟩
  · rw [kp _ (by omega)]; exact q1
  · exact q2.same (fun b hb => kp b (by have := (q3 b hb).2; omega))
  · exact ⟨q5.os, q5.tape, q5.output, by simpa using q5.size, fun g hg => (kp g (by omega)).trans (q5.block g hg)⟩
/-- One more. -/
theorem Col.app {Bl Bs : Nat} {w3 : World} {l : List Nat} {T : Nat → Prop} {A B : World} {o : Obj} {v v' : Value} {x : Nat} (hB : Bl < Bs) (h : Col Bl Bs w3 l T A) (hz : Bs + 3 ≤ A.heap.size) (hbox : A.heap[Bl]? = some (.cells #[v] 55 (0, 0))) (hv3 : ∀ b, v.ownBlock = some b → ¬ T b ∧ Bs + 3 ≤ b)
    (ho : OwnI B v' (l ++ [x])) (hgr : (A.alloc o).grownBy B v.ownBlock) (hsep : v'.ownBlock = v.ownBlock ∨ v'.ownBlock = some (A.heap.size + 1)) :
    Col Bl Bs w3 (l ++ [x]) T (B.setCell ⟨Bl, 0, none⟩ v') ∧ (∀ g, g < A.heap.size → g ≠ Bl → v.ownBlock ≠ some g → (B.setCell ⟨Bl, 0, none⟩ v').heap[g]? = A.heap[g]?) ∧ B.cell? ⟨Bl, 0, none⟩ = some v ∧ B.frozen? ⟨Bl, 0, none⟩ = false ∧ A.heap.size ≤ B.heap.size := by
  have hb : Below A.heap.size A (A.alloc o) := (Below.refl A.heap.size A).alloc (Nat.le_refl _) o
  have kB : ∀ g, g < A.heap.size → v.ownBlock ≠ some g → B.heap[g]? = A.heap[g]? := fun g hg hne => by rw [hgr.block g (Nat.lt_of_lt_of_le hg hb.size) (fun e => hne e.symm), hb.block g hg]
  have hBl : v.ownBlock ≠ some Bl := fun e => by have := (hv3 Bl e).2; omega
  have boxB : B.heap[Bl]? = some (.cells #[v] 55 (0, 0)) := by rw [kB Bl (by omega) hBl]; exact hbox
  have szB : A.heap.size ≤ B.heap.size := Nat.le_trans hb.size hgr.size
  have ne := neq_set B Bl 0 v'
  have vlt : ∀ b, v'.ownBlock = some b → ¬ T b ∧ Bs + 3 ≤ b := by
    intro b e
    rcases hsep with e2 | e2
    · rw [e2] at e; exact hv3 b e
    · rw [e2] at e
      simp only [Option.some.injEq] at e
      subst e
      exact ⟨fun h' => by have := h.tb _ h'; omega, by omega⟩
  refine ⟨⟨⟨v', ?_, ?_, vlt⟩, fun g hg => by have := h.tb g hg; simp; omega, ?_, by simp; omega⟩, ?_, ?_, ?_, szB⟩
  · exact heap_setCell_same B Bl 0 _ 55 v' boxB
  · exact ho.same (fun b e => ne b (by have := (vlt b e).2; omega))
  · have h5 := h.be
    exact ⟨hgr.os.trans (hb.os.trans h5.os), hgr.tape.trans (hb.tape.trans h5.tape), hgr.output.trans (hb.output.trans h5.output), by have := h5.size; simp; omega, fun g hg => by rw [ne g (by omega), kB g (by omega) (fun e => by have := (hv3 g e).2; omega)]; exact h5.block g hg⟩
  · intro g hg h1 h2; rw [ne g h1]; exact kB g hg h2
  · rw [cell_of_row B Bl 0 _ 55 (0, 0) boxB]; rfl
  · exact frozen_of_row B Bl 0 _ 55 boxB
set_option maxRecDepth 100000 in
theorem isLeaf_any (k : Nat) (w : World) :
    Calls Try.prog 93 #[.int .u8 k] w fun e w' => e = .returned (.bool (!decide (k = 2 ∨ k = 3))) ∧ w' = w := by
  have h := isInner_any k
  generalize decide (k = 2 ∨ k = 3) = b at h ⊢
  go_enter Try.func93, Try.ntmps93
  go_wp2_with (go_at_call 94; refine (h _).mono ?_; rintro e w' ⟨rfl, rfl⟩)
  go_ret
  exact ⟨rfl, rfl⟩
end Go.Proofs.Ytaogjiffnebnkaa.Mk
