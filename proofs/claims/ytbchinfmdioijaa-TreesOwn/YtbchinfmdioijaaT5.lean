import Derived.RangeFuncBox
import Derived.RangeFuncLeaves
import Derived.RangeFuncCalls
import Derived.RangeFuncRecord
import Derived.Below
import Derived.Test.YtbchinfmdioijaaT2
import Derived.Shelf.Abstract
import Derived.OwnWalkIn
import Derived.TacticsInMore
import Derived.LoopNIn
import Derived.LoopIn
import Derived.Sort.LoopGhostIn
set_option linter.unusedVariables false
namespace Go.Proofs.Ytbchinfmdioijaa
open Go.RowKit
/-- What an iterator with memory of its own does: it turns its own blocks and lays new ones. -/
structure Stp (T : Nat → Prop) (A B : World) : Prop where
  os : B.os = A.os
  tape : B.tape = A.tape
  output : B.output = A.output
  size : A.heap.size ≤ B.heap.size
  block : ∀ g, g < A.heap.size → ¬ T g → B.heap[g]? = A.heap[g]?
/-- Its blocks, and those laid since. -/
def more (T : Nat → Prop) (A B : World) : Nat → Prop := fun g => T g ∨ (A.heap.size ≤ g ∧ g < B.heap.size)
/-- What a round leaves as it is: what lies below, and the iterator's blocks. -/
structure Kpt (n0 : Nat) (T : Nat → Prop) (A B : World) : Prop where
  os : B.os = A.os
  tape : B.tape = A.tape
  output : B.output = A.output
  size : A.heap.size ≤ B.heap.size
  block : ∀ g, g < A.heap.size → (g < n0 ∨ T g) → B.heap[g]? = A.heap[g]?
theorem Kpt.trans {n0 : Nat} {T : Nat → Prop} {A B C : World} (h : Kpt n0 T A B) (k : Kpt n0 T B C) : Kpt n0 T A C :=
  ⟨k.os.trans h.os, k.tape.trans h.tape, k.output.trans h.output, Nat.le_trans h.size k.size, fun g hg ht => (k.block g (Nat.lt_of_lt_of_le hg h.size) ht).trans (h.block g hg ht)⟩
theorem Kpt.put {n0 : Nat} {T : Nat → Prop} (A : World) (r : Nat) (o : Obj) (hr : n0 ≤ r) (ht : ¬ T r) : Kpt n0 T A (A.putObj r o) :=
  ⟨rfl, rfl, rfl, by simp, fun g _ hg => World.putObj_heap_other (fun e => by subst e; rcases hg with h | h; omega; exact ht h)⟩
/-- An iterator with memory of its own. -/
def SeqT {α : Type} (n : Nat) (P : Program) (gf : Nat) (lb : Array Value) (encs : α → Array Value) (n0 : Nat) (T0 : Nat → Prop) (S Sp : List α → Prop) (N : Nat) (w : World) : Prop :=
  ∀ (l : Nat) (J : List α → (Nat → Prop) → World → Prop) (Jx : List α → World → Prop) (W : World), Below w.heap.size w W →
    (∀ pre T A B, J pre T A → Stp T A B → J pre (more T A B) B) →
    (∀ pre x T A, J pre T A → pre.length < N → YieldAt Fence.wide (n - 1) P l (encs x) A fun e A' =>
      (e = .returned (.bool true) ∧ J (pre ++ [x]) T A' ∧ Kpt n0 T A A') ∨ (e = .returned (.bool false) ∧ Jx (pre ++ [x]) A')) →
    J [] T0 W →
    CallsIn Fence.wide n P gf (#[.func (.yield l) #[] #[]] ++ lb) W fun e W' => (∃ v, e = .returned v) ∧ ((∃ xs T, S xs ∧ J xs T W') ∨ (∃ pre, Sp pre ∧ Jx pre W'))
/-- How a round may be left. -/
def postT {α : Type} (s n0 : Nat) (T : Nat → Prop) (I : List α → (Nat → Prop) → World → Prop) (Ix : Code → List α → World → Prop) (xs : List α) (W : World) : Exit → Act → World → Prop
  | .normal, _, W' => (W'.heap[s]? = W.heap[s]? ∧ W'.heap[s + 1]? = W.heap[s + 1]?) ∧ Kpt n0 T W W' ∧ I xs T W'
  | .ret, _, W' => (W'.heap[s]? = W.heap[s]? ∧ W'.heap[s + 1]? = W.heap[s + 1]?) ∧ Ix .ret xs W'
  | .exit id, _, W' => (W'.heap[s]? = W.heap[s]? ∧ W'.heap[s + 1]? = W.heap[s + 1]?) ∧ Ix (.exit id) xs W'
  | .goto t, _, W' => (W'.heap[s]? = W.heap[s]? ∧ W'.heap[s + 1]? = W.heap[s + 1]?) ∧ Ix (.goto t) xs W'
  | .panic _, _, _ => False
  | .outgrown, _, _ => False
theorem wp_rangeT {α : Type} {P : Program} {n : Nat} {g : Operand} {ps : Array Tmp} {assign body : Code} {Q : Exit → Act → World → Prop} {a : Act} {w : World} (h1 : 1 ≤ n) {gf : Nat} {lb : Array Value}
    (hg : a.eval g = .func (.func gf) #[] lb) (eg : ∀ args w, (callFunc gf args).run P w = .ok (.enter gf args) w) {encs : α → Array Value} {n0 : Nat} {T0 : Nat → Prop} {S Sp : List α → Prop} {N : Nat} {w0 : World}
    (hseq : SeqT (n - 1) P gf lb encs n0 T0 S Sp N w0) (hb0 : Below w0.heap.size w0 w) (hps : ∀ x, (encs x).size = ps.size) (hn0 : n0 ≤ w.heap.size) (hT0 : ∀ g, T0 g → g < w.heap.size)
    (I : List α → (Nat → Prop) → World → Prop) (Ix : Code → List α → World → Prop) (hI1 : ∀ pre T A B, I pre T A → Stp T A B → I pre (more T A B) B)
    (hI2 : ∀ pre T A r o', I pre T A → w.heap.size ≤ r → r < w.heap.size + 2 → r < A.heap.size → I pre T (A.putObj r o')) (hIx2 : ∀ c pre A r o', Ix c pre A → w.heap.size ≤ r → r < w.heap.size + 2 → r < A.heap.size → Ix c pre (A.putObj r o'))
    (h0 : ∀ W, Stp (fun _ => False) w W → I [] T0 W) (a₁ : α → Act)
    (hassign : ∀ (l : Nat) (x : α) (W : World) (K : Act → World → Prop), K (a₁ x) W → assign.wpIn (Fence.wide.inRound l) (n - 1 - 1) P (Exit.then K (fun _ _ _ => False)) { tmps := (ps.zip (encs x)).foldl (fun t (p, v) => t.setIfInBounds p v) a.tmps, defers := [] } W)
    (hbody : ∀ (l : Nat) (pre : List α) (x : α) (T : Nat → Prop) (W : World), I pre T W → pre.length < N → (∀ g, T g → g < w.heap.size ∨ w.heap.size + 2 ≤ g) → w.heap.size + 2 ≤ W.heap.size → body.wpIn (Fence.wide.inRound l) (n - 1 - 1) P (postT w.heap.size n0 T I Ix (pre ++ [x]) W) (a₁ x) W)
    (hdone : ∀ xs T W, S xs → I xs T W → W.heap[w.heap.size]? = some (.deferred (some [])) → Q .normal { a with defers := { target := .collected w.heap.size, args := #[] } :: a.defers } W)
    (hstop : ∀ c pre W, Sp pre → Ix c pre W → W.heap[w.heap.size]? = some (.deferred (some [])) → c.wpIn Fence.wide n P Q { a with defers := { target := .collected w.heap.size, args := #[] } :: a.defers } W) :
    (Code.rangeFunc g ps assign body).wpIn Fence.wide n P Q a w := by
  refine wpIn_rangeFunc fun fn hfn => ?_
  obtain ⟨s, hs⟩ : ∃ s, w.heap.size = s := ⟨_, rfl⟩
  let rec0 (st : LoopState) (pe : Option Code) : Loop := { state := st, pending := pe, fn, tmps := a.tmps, params := ps, assign, body, defers := s }
  obtain ⟨W1, hW1⟩ : ∃ W1, (w.alloc (.deferred (some []))).alloc (.loop (rec0 .ready none)) = W1 := ⟨_, rfl⟩
  have e0 : (Instr.enterLoop fn a.tmps ps assign body Fence.wide.round).run P w = .ok (s + 1, [{ target := .collected s, args := #[] }]) W1 := by
    rw [← hW1, ← hs]
    have := run_enterLoop_outer (P := P) (w := w) fn a.tmps ps assign body
    simp only [rec0, ← hs]
    exact this
  have sz1 : W1.heap.size = s + 2 := by rw [← hW1]; simp [hs]
  have d1 : W1.heap[s]? = some (.deferred (some [])) := by
    rw [← hW1, ← hs]
    exact (Below.heap_alloc _ _ _ (by simp)).trans (World.alloc_heap_new w _)
  have l1 : W1.heap[s + 1]? = some (.loop (rec0 .ready none)) := by
    rw [← hW1, ← hs]
    have := World.alloc_heap_new (w.alloc (.deferred (some []))) (.loop (rec0 .ready none))
    rw [World.size_alloc] at this
    exact this
  have st1 : Stp (fun _ => False) w W1 := by
    have hb : Below w.heap.size w W1 := by rw [← hW1]; exact ((Below.refl _ w).alloc (Nat.le_refl _) _).alloc (by simp) _
    exact ⟨hb.os, hb.tape, hb.output, hb.size, fun g hg _ => hb.block g hg⟩
  have b1 : Below w0.heap.size w0 W1 := by
    refine hb0.trans (Below.mono ?_ hb0.size)
    rw [← hW1]
    exact ((Below.refl _ w).alloc (Nat.le_refl _) _).alloc (by simp) _
  refine ⟨s + 1, [{ target := .collected s, args := #[] }], W1, { target := .fn (.func gf) lb, args := #[.func (.yield (s + 1)) #[] #[]] }, W1, gf, #[.func (.yield (s + 1)) #[] #[]] ++ lb, W1, e0, ?_, ?_, ?_, fun _ => h1, ?_⟩
  · simp only [resolve, hg]
    simp [go_sem]
  · intro f' hf'
    trivial
  · simp [invoke, go_sem, eg]
  · rw [hs] at hn0 hT0 hI2 hIx2 hbody hdone hstop
    have hT1 : ∀ T A B, (∀ g, T g → g < s ∨ s + 2 ≤ g) → s + 2 ≤ A.heap.size → ∀ g, more T A B g → g < s ∨ s + 2 ≤ g := by
      intro T A B h h2 g hg
      rcases hg with hg | hg
      · exact h g hg
      · omega
    refine (hseq (s + 1) (fun pre T W => I pre T W ∧ W.heap[s + 1]? = some (.loop (rec0 .ready none)) ∧ W.heap[s]? = some (.deferred (some [])) ∧ (∀ g, T g → g < s ∨ s + 2 ≤ g) ∧ s + 2 ≤ W.heap.size)
      (fun pre W => ∃ c, Ix c pre W ∧ W.heap[s + 1]? = some (.loop (rec0 .done (some c))) ∧ W.heap[s]? = some (.deferred (some []))) W1 b1 ?_ ?_ ⟨h0 W1 st1, l1, d1, fun g hg => .inl (hT0 g hg), by omega⟩).mono ?_
    · rintro pre T A B ⟨hi, hl, hd, ht, hz⟩ hst
      refine ⟨hI1 pre T A B hi hst, ?_, ?_, hT1 T A B ht hz, Nat.le_trans hz hst.size⟩
      · rw [hst.block (s + 1) (by omega) (fun h => by have := ht _ h; omega)]; exact hl
      · rw [hst.block s (by omega) (fun h => by have := ht _ h; omega)]; exact hd
    · rintro pre x T A ⟨hi, hl, hd, ht, hz⟩ hlen
      have nT0 : ¬ T s := fun h => by have := ht _ h; omega
      have nT1 : ¬ T (s + 1) := fun h => by have := ht _ h; omega
      refine ⟨fn, _, assign, body, run_yield (P := P) (args := encs x) hl (hps x), roundIn_of_wpIn hfn (hassign _ x A _ ⟨_, run_beginRound hl rfl, ?_⟩)⟩
      have sB : (A.putObj (s + 1) (.loop { rec0 .ready none with state := .busy })).heap.size = A.heap.size := World.putObj_size
      have lB : (A.putObj (s + 1) (.loop { rec0 .ready none with state := .busy })).heap[s + 1]? = some (.loop { rec0 .ready none with state := .busy }) := World.putObj_heap_same (by omega)
      have dB : (A.putObj (s + 1) (.loop { rec0 .ready none with state := .busy })).heap[s]? = some (.deferred (some [])) := (World.putObj_heap_other (by omega)).trans hd
      have kB : Kpt n0 T A (A.putObj (s + 1) (.loop { rec0 .ready none with state := .busy })) := Kpt.put A (s + 1) _ (by omega) nT1
      have iB := hI2 pre T A (s + 1) (.loop { rec0 .ready none with state := .busy }) hi (by omega) (by omega) (by omega)
      generalize A.putObj (s + 1) (.loop { rec0 .ready none with state := .busy }) = A2 at sB lB dB kB iB
      refine wpIn_mono (hbody _ pre x T A2 iB hlen ht (by omega)) ?_
      intro e a3 W3 hp
      have fin : ∀ jump : Option Code, (W3.heap[s]? = A2.heap[s]? ∧ W3.heap[s + 1]? = A2.heap[s + 1]?) →
          (Instr.endRound (s + 1) jump).run P W3 = .ok (.bool jump.isNone) (W3.putObj (s + 1) (.loop (rec0 (if jump.isNone then .ready else .done) jump))) ∧ s + 1 < W3.heap.size ∧
          (W3.putObj (s + 1) (.loop (rec0 (if jump.isNone then .ready else .done) jump))).heap[s + 1]? = some (.loop (rec0 (if jump.isNone then .ready else .done) jump)) ∧
          (W3.putObj (s + 1) (.loop (rec0 (if jump.isNone then .ready else .done) jump))).heap[s]? = some (.deferred (some [])) := by
        intro jump hh
        have l3 : W3.heap[s + 1]? = some (.loop { rec0 .ready none with state := .busy }) := hh.2.trans lB
        have hlt : s + 1 < W3.heap.size := (Array.getElem?_eq_some_iff.1 l3).1
        exact ⟨run_endRound (P := P) jump l3, hlt, World.putObj_heap_same hlt, (World.putObj_heap_other (by omega)).trans (hh.1.trans dB)⟩
      cases e with
      | normal =>
        obtain ⟨hh, hk, hi3⟩ := hp
        obtain ⟨q1, q2, q3, q4⟩ := fin none hh
        refine ⟨_, _, q1, .inl ⟨rfl, ⟨hI2 _ T W3 (s + 1) _ hi3 (by omega) (by omega) q2, q3, q4, ht, ?_⟩, (kB.trans hk).trans (Kpt.put W3 (s + 1) _ (by omega) nT1)⟩⟩
        have := hk.size
        rw [World.putObj_size]
        omega
      | ret =>
        obtain ⟨hh, hi3⟩ := hp
        obtain ⟨q1, q2, q3, q4⟩ := fin (some .ret) hh
        exact ⟨_, _, q1, .inr ⟨rfl, .ret, hIx2 _ _ W3 (s + 1) _ hi3 (by omega) (by omega) q2, q3, q4⟩⟩
      | exit id =>
        obtain ⟨hh, hi3⟩ := hp
        obtain ⟨q1, q2, q3, q4⟩ := fin (some (.exit id)) hh
        exact ⟨_, _, q1, .inr ⟨rfl, .exit id, hIx2 _ _ W3 (s + 1) _ hi3 (by omega) (by omega) q2, q3, q4⟩⟩
      | goto t =>
        obtain ⟨hh, hi3⟩ := hp
        obtain ⟨q1, q2, q3, q4⟩ := fin (some (.goto t)) hh
        exact ⟨_, _, q1, .inr ⟨rfl, .goto t, hIx2 _ _ W3 (s + 1) _ hi3 (by omega) (by omega) q2, q3, q4⟩⟩
      | panic ch => exact hp.elim
      | outgrown => exact hp.elim
    · rintro e W2 ⟨⟨v, rfl⟩, (⟨xs, T, hS, hi, hl, hd, ht, hz⟩ | ⟨pre, hSp, c, hi, hl, hd⟩)⟩
      · refine ⟨none, _, run_endLoop (P := P) hl (by simp [rec0]), ?_⟩
        exact hdone xs T _ hS (hI2 _ T W2 (s + 1) _ hi (by omega) (by omega) (by omega)) ((World.putObj_heap_other (by omega)).trans hd)
      · have hlt : s + 1 < W2.heap.size := (Array.getElem?_eq_some_iff.1 hl).1
        refine ⟨some c, _, run_endLoop (P := P) hl (by simp [rec0]), ?_⟩
        exact hstop c pre _ hSp (hIx2 c pre W2 (s + 1) _ hi (by omega) (by omega) hlt) ((World.putObj_heap_other (by omega)).trans hd)
end Go.Proofs.Ytbchinfmdioijaa
set_option linter.unusedVariables false
set_option linter.unusedSimpArgs false
namespace Go.Proofs.Ytbchinfmdioijaa
open Go.RowKit Go.Shelf
attribute [local go_sem] Oper.semAt_some
/-- Naturals as cells. -/
def UI (l : List Nat) : List Value := l.map (fun x => Value.int .i64 (x : Nat))
theorem UI_length (l : List Nat) : (UI l).length = l.length := by simp [UI]
theorem UI_get (l : List Nat) (j : Nat) (h : j < l.length) : (UI l)[j]? = some (.int .i64 (l.getD j 0 : Nat)) := by simp [UI, List.getD, h]
/-- Truths as cells. -/
def UB (l : List Bool) : List Value := l.map (fun x => Value.bool x)
theorem UB_get (l : List Bool) (j : Nat) (h : j < l.length) : (UB l)[j]? = some (.bool (l.getD j false)) := by simp [UB, List.getD, h]
def RowB (w : World) (g : Nat) (l : List Bool) : Prop := w.heap[g]? = some (.cells (UB l).toArray 4 (0, 0))
theorem RowB.lt {w : World} {g : Nat} {l : List Bool} (h : RowB w g l) : g < w.heap.size := (Array.getElem?_eq_some_iff.1 h).1
theorem RowB.cell {w : World} {g : Nat} {l : List Bool} (h : RowB w g l) (j : Nat) (hj : j < l.length) : w.cell? ⟨g, j, none⟩ = some (.bool (l.getD j false)) := by
  rw [cell_of_row w g j _ 4 (0, 0) h]; simpa using UB_get l j hj
theorem RowB.frozen {w : World} {g : Nat} {l : List Bool} (h : RowB w g l) (j : Nat) : w.frozen? ⟨g, j, none⟩ = false := frozen_of_row w g j _ 4 h
theorem RowB.set {w : World} {g : Nat} {l : List Bool} (h : RowB w g l) (j : Nat) (x : Bool) : RowB (w.setCell ⟨g, j, none⟩ (.bool x)) g (l.set j x) := by
  have := heap_setCell_same w g j _ 4 (.bool x) h
  unfold RowB
  rw [this]
  simp [UB, List.map_set]
theorem i4 : (Try.prog.info? 4).map (fun i => (i.zero, i.size, i.bytes)) = some (some (.bool false), 1, 1) := by kernel_rfl
theorem i3 : (Try.prog.info? 3).map (fun i => (i.zero, i.size, i.bytes)) = some (some (.int .i64 0), 1, 8) := by kernel_rfl
theorem made4 (n : Nat) : madeCells (Value.bool false).cells n = (UB (List.replicate n false)).toArray := by
  have := toList_madeCells_one (.bool false) n
  rw [← Array.toList_inj]
  simp only [UB, List.map_replicate]
  exact this
theorem made3 (n : Nat) : madeCells (Value.int .i64 0).cells n = (UI (List.replicate n 0)).toArray := by
  have := toList_madeCells_one (.int .i64 0) n
  rw [← Array.toList_inj]
  simp only [UI, List.map_replicate]
  exact this
/-- make([]bool, n). -/
theorem wpListIn_makeB {F : Fence} {m : Nat} (w : World) {ops : Array Oper} {rest : List Oper} {o : Oper} {a : Act} {Q : Exit → Act → World → Prop} (hg : o.guard = none) (l c : Operand) (hop : o.op = Op.makeSlice 72 l c) (kl kc : IntKind) (X C : Int) (n : Nat) (hl : a.eval l = .int kl X) (hc : a.eval c = .int kc C) (hL : X = (n : Int)) (hC : C = (n : Int)) (hn : n ≤ 17592186044416)
    (hK : wpListIn F m Try.prog ops Q rest (a.put o.dst (.slice (some ⟨w.heap.size, 0, none⟩) n n)) (w.alloc (.cells (UB (List.replicate n false)).toArray 4))) :
    wpListIn F m Try.prog ops Q (o :: rest) a w := by
  refine wpListIn_plain hg fun K hK' => ?_
  obtain ⟨i, hi, hz0, hz1, hz2⟩ := info_parts i4
  have hr := run_make (P := Try.prog) w 72 4 i _ Try.underlying72 hi hz0 kl kc n n (by omega) (by omega) (by rw [hz2]; omega) (by omega)
  subst hL
  subst hC
  rw [hz1] at hr
  simp only [Int.toNat_natCast, Nat.mul_one, made4] at hr
  unfold Oper.wpIn
  refine ⟨?_, ?_⟩
  · simp [Oper.about, hop]
  · rw [Oper.semAt_plain F _ _ (by rw [hop]; intro c hc'; cases hc')]
    simp [execOp, hop, hl, hc, hr, Result.andThen]
    exact hK' _ _ hK
/-- A list of naturals with memory of its own. -/
def OwnI (w : World) (v : Value) (l : List Nat) : Prop := w.ownsRow 0 3 1 v l.length (UI l)
theorem OwnI.same {w w' : World} {v : Value} {l : List Nat} (h : OwnI w v l) (k : ∀ b, v.ownBlock = some b → w'.heap[b]? = w.heap[b]?) : OwnI w' v l := by
  refine ⟨h.1, ?_⟩
  rcases h.2 with h2 | ⟨g, cap, cur, hv, hg, hh, r⟩
  · exact .inl h2
  · exact .inr ⟨g, cap, cur, hv, hg, by rw [k g (by rw [hv]; rfl)]; exact hh, r⟩
theorem OwnI.block {w : World} {v : Value} {l : List Nat} (h : OwnI w v l) {b : Nat} (hb : v.ownBlock = some b) : ∃ cur, w.heap[b]? = some (.cells cur 3 (0, 0)) := by
  rcases h.2 with ⟨h1, _⟩ | ⟨g, cap, cur, hv, hg, hh, r⟩
  · rw [h1] at hb; cases hb
  · rw [hv] at hb
    have hb : some g = some b := hb
    simp only [Option.some.injEq] at hb
    subst hb
    exact ⟨cur, hh⟩
theorem OwnI.nil (w : World) : OwnI w (.slice none 0 0) [] := ⟨rfl, .inl ⟨rfl, rfl⟩⟩
theorem OwnI.cells {w : World} {v : Value} {l : List Nat} (h : OwnI w v l) (h0 : 0 < l.length) : ∃ g cap, v = .slice (some ⟨g, 0, none⟩) l.length cap ∧ l.length ≤ cap ∧ g < w.heap.size ∧ ∀ j, j < l.length → w.cell? ⟨g, j, none⟩ = some (.int .i64 (l.getD j 0 : Nat)) := by
  rcases h.2 with ⟨h1, h2⟩ | ⟨g, cap, cur, hv, hg, hh, h1, h2, h3, h4⟩
  · omega
  · refine ⟨g, cap, hv, h1, (Array.getElem?_eq_some_iff.1 hh).1, ?_⟩
    intro j hj
    rw [cell_of_row w g j cur 3 (0, 0) hh, ← UI_get l j hj, ← h4]
    simp [hj]
theorem OwnI.shape {w : World} {v : Value} {l : List Nat} (h : OwnI w v l) : ∃ a c, v = .slice a l.length c ∧ l.length ≤ c := by
  rcases h.2 with ⟨h1, h2⟩ | ⟨g, cap, cur, hv, hg, hh, h1, h2, h3, h4⟩
  · exact ⟨none, 0, by rw [h1, h2], by omega⟩
  · exact ⟨_, cap, hv, h1⟩
/-- The last one taken off. -/
theorem OwnI.pop {w : World} {g cap : Nat} {l : List Nat} {x : Nat} (h : OwnI w (.slice (some ⟨g, 0, none⟩) (l ++ [x]).length cap) (l ++ [x])) : OwnI w (.slice (some ⟨g, 0, none⟩) l.length cap) l := by
  rcases h.2 with ⟨h1, h2⟩ | ⟨g', cap', cur, hv, hg, hh, h1, h2, h3, h4⟩
  · cases h1
  · simp only [Value.slice.injEq, Option.some.injEq, Addr.mk.injEq, and_true, true_and] at hv
    obtain ⟨rfl, rfl⟩ := hv
    refine ⟨by simp [UI], .inr ⟨g, cap, cur, rfl, hg, hh, by simp at h1; omega, h2, h3, ?_⟩⟩
    have := congrArg (List.take l.length) h4
    rw [List.take_take, Nat.mul_one, Nat.min_eq_left (by simp)] at this
    rw [Nat.mul_one, this]
    simp [UI]
/-- What append leaves: the same block, or a new one. -/
theorem appI_sep (w : World) (ty : Nat) (v : Value) (l ys : List Nat) (hown : OwnI w v l) (ad : Addr) (c : Nat) (hm : 0 < ys.length) (hnews : ∀ j u, (UI ys)[j]? = some u → w.cell? (ad.add j) = some u) (hlen : l.length + ys.length ≤ 17592186044416) :
    ∃ v' w', (Builtin.append_ #[29, 29] ty #[v, .slice (some ad) ys.length c]).run Try.prog w = .ok v' w' ∧ OwnI w' v' (l ++ ys) ∧ w.grownBy w' v.ownBlock ∧ (v'.ownBlock = v.ownBlock ∨ v'.ownBlock = some w.heap.size) := by
  obtain ⟨i0, hi, hz0, hz1, hz2⟩ := info_parts i3
  have h1 : ∀ u ∈ UI ys, u.oneCell' = true := by intro u hu; obtain ⟨_, _, rfl⟩ := List.mem_map.1 hu; rfl
  have hl : (UI ys).length = ys.length * 1 := by simp [UI]
  obtain ⟨v', w', hr, h2, h3, -⟩ := run_append_own (P := Try.prog) w 0 29 ty 3 i0 (.int .i64 0) 1 8 Try.underlying29 hi hz0 hz1 hz2 rfl (by decide) v _ _ hown ad ys.length c (UI ys) hl hnews h1 (by simp only [maxLen]; omega) (by omega) (by omega)
  refine ⟨v', w', hr, ?_, h3, ?_⟩
  · unfold OwnI; rw [List.length_append]; simpa [UI] using h2
  rcases hown.2 with ⟨rfl, hn⟩ | ⟨g, cap, cur, rfl, hbg, hg, hnc, hcm, hcs, htake⟩
  · have e := run_append_nil (P := Try.prog) w 29 ty 3 i0 _ Try.underlying29 hi hz0 ad ys.length c (UI ys) (by rw [hz1]; exact hl) hnews hm (by omega) (by rw [hz2]; omega)
    rw [hr] at e
    simp only [Result.ok.injEq] at e
    rw [e.1]
    exact .inr rfl
  · by_cases hroom : l.length + ys.length ≤ cap
    · have e := run_append_room (P := Try.prog) w 29 ty 3 i0 Try.underlying29 hi g l.length cap cur hg ad ys.length c (UI ys) (by rw [hz1]; exact hl) hnews h1 hroom (by rw [hz1, UI_length]; omega)
      rw [hr] at e
      simp only [Result.ok.injEq] at e
      rw [e.1]
      exact .inl rfl
    · have holds : ∀ j u, (UI l)[j]? = some u → w.cell? ((⟨g, 0, none⟩ : Addr).add j) = some u := World.ownsRow.cells (v := .slice (some ⟨g, 0, none⟩) l.length cap) hown (g := g) rfl
      have e := run_append_grow (P := Try.prog) w 29 ty 3 i0 _ Try.underlying29 hi hz0 ⟨g, 0, none⟩ l.length cap (UI l) (by rw [hz1, UI_length]; omega) holds ad ys.length c (UI ys) (by rw [hz1]; exact hl) hnews (by omega) (by omega) (growslice_fits (by omega) (by rw [hz2]; omega))
      rw [hr] at e
      simp only [Result.ok.injEq] at e
      rw [e.1]
      exact .inr rfl
/-- append(l, ys...). -/
theorem wpListIn_appI {F : Fence} {m : Nat} (w : World) {ops : Array Oper} {rest : List Oper} {o : Oper} {a : Act} {Q : Exit → Act → World → Prop} (hgd : o.guard = none) (s x : Operand)
    (hop : o.op = .call { callee := .builtin .append, args := #[s, x], argTypes := #[29, 29] }) (l ys : List Nat) (v : Value) (hs : a.eval s = v) (hown : OwnI w v l) (ad : Addr) (k c : Nat) (hx : a.eval x = .slice (some ad) k c) (hk : k = ys.length) (hm : 0 < ys.length)
    (hnews : ∀ j u, (UI ys)[j]? = some u → w.cell? (ad.add j) = some u) (hlen : l.length + ys.length ≤ 17592186044416)
    (hK : ∀ v' w', OwnI w' v' (l ++ ys) → w.grownBy w' v.ownBlock → (v'.ownBlock = v.ownBlock ∨ v'.ownBlock = some w.heap.size) → wpListIn F m Try.prog ops Q rest (a.put o.dst v') w') :
    wpListIn F m Try.prog ops Q (o :: rest) a w := by
  subst hk
  refine wpListIn_plain hgd fun K hK' => ?_
  obtain ⟨v', w', hrun, r1, r2, r3⟩ := appI_sep w o.type v l ys hown ad c hm hnews hlen
  unfold Oper.wpIn
  refine ⟨?_, ?_⟩
  · simp [Oper.about, hop, resolve, Target.leads, Sem.run_pure]
  · rw [Oper.semAt_plain F _ _ (by rw [hop]; intro c hc'; cases hc')]
    simp [execOp, hop, resolve, invoke, builtin, hs, hx, hrun, Result.andThen]
    exact hK' _ _ (hK v' w' r1 r2 r3)
end Go.Proofs.Ytbchinfmdioijaa
set_option linter.unusedVariables false
set_option linter.unusedSimpArgs false
namespace Go.Proofs.Ytbchinfmdioijaa
open Go.RowKit Go.Shelf
attribute [local go_sem] Oper.semAt_some
/-- The shape of nodes. -/
def shp (L : List Nd) : Sh := ⟨fun i => decide ((L.getD i nd0).kd = 2 ∨ (L.getD i nd0).kd = 3), fun i => (L.getD i nd0).lf.toNat, fun i => (L.getD i nd0).rt.toNat⟩
/-- All of them are right. -/
def Rgt (L : List Nd) : Prop := 0 < L.length ∧ ∀ i, i < L.length → rightB (L.getD i nd0) L.length = true
theorem Rgt.kids {L : List Nd} (h : Rgt L) {i : Nat} (hi : i < L.length) (hk : (shp L).K i = true) :
    ((L.getD i nd0).lf = ((shp L).A i : Nat) ∧ (shp L).A i < L.length ∧ 0 < (shp L).A i) ∧ ((L.getD i nd0).rt = ((shp L).B i : Nat) ∧ (shp L).B i < L.length ∧ 0 < (shp L).B i) := by
  have hr := h.2 i hi
  simp only [shp, decide_eq_true_eq] at hk ⊢
  generalize L.getD i nd0 = n at *
  unfold rightB spl at hr
  rcases hk with hk | hk
  · rw [if_neg (by omega), if_pos hk] at hr
    simp only [Bool.and_eq_true, decide_eq_true_eq] at hr
    omega
  · rw [if_neg (by omega), if_neg (by omega), if_pos hk] at hr
    simp only [Bool.and_eq_true, decide_eq_true_eq] at hr
    omega
theorem Rgt.wi {L : List Nd} (h : Rgt L) : In (shp L) L.length := ⟨h.1, fun i hi hk => ⟨(h.kids hi hk).1.2.1, (h.kids hi hk).2.2.1⟩⟩
/-- Kinds and children can be read, from blocks below n0. -/
def RdB (n0 : Nat) (w : World) (a : Option Addr) (L : List Nd) : Prop :=
  ∀ j, j < L.length → ∃ b o, a = some ⟨b, o, none⟩ ∧ b < n0 ∧ w.cell? ⟨b, o + j * 8, none⟩ = some (.int .u8 ((L.getD j nd0).kd : Nat)) ∧ w.cell? ⟨b, o + j * 8 + 6, none⟩ = some (.int .i64 (L.getD j nd0).lf) ∧ w.cell? ⟨b, o + j * 8 + 7, none⟩ = some (.int .i64 (L.getD j nd0).rt)
theorem RdB.same {n0 : Nat} {w w' : World} {a : Option Addr} {L : List Nd} (h : RdB n0 w a L) (k : ∀ g, g < n0 → w'.heap[g]? = w.heap[g]?) : RdB n0 w' a L := by
  intro j hj
  obtain ⟨b, o, e, hb, c0, c1, c2⟩ := h j hj
  have hk := k b hb
  exact ⟨b, o, e, hb, by rw [World.cell?_of_block (a := ⟨b, o + j * 8, none⟩) hk]; exact c0, by rw [World.cell?_of_block (a := ⟨b, o + j * 8 + 6, none⟩) hk]; exact c1, by rw [World.cell?_of_block (a := ⟨b, o + j * 8 + 7, none⟩) hk]; exact c2⟩
/-- Which have been met. -/
def mets (N : Nat) (out : List Nat) : List Bool := (List.range N).map fun j => decide (j ∈ out)
theorem mets_len (N : Nat) (out : List Nat) : (mets N out).length = N := by simp [mets]
theorem mets_get {N : Nat} {out : List Nat} {j : Nat} (h : j < N) : (mets N out).getD j false = decide (j ∈ out) := by simp [mets, List.getD, h]
theorem mets_nil (N : Nat) : mets N [] = List.replicate N false := by
  apply List.ext_getElem
  · simp [mets]
  · intro i h1 h2; simp [mets]
theorem mets_set {N : Nat} {out : List Nat} {i : Nat} (h : i < N) : (mets N out).set i true = mets N (out ++ [i]) := by
  apply List.ext_getElem
  · simp [mets]
  · intro j h1 h2
    simp only [mets, List.getElem_set, List.getElem_map, List.getElem_range]
    by_cases e : i = j
    · subst e; simp
    · rw [if_neg e]
      have : ¬ j = i := fun h => e h.symm
      simp [this]
abbrev nums {N : Nat} (xs : List (Fin N)) : List Nat := xs.map (·.val)
/-- What the iterator holds between two rounds. -/
structure Itr (L : List Nd) (n0 Bs gm : Nat) (a : Option Addr) (cap : Nat) (J : List (Fin L.length) → (Nat → Prop) → World → Prop) (f : Nat) (vw : Value) (wr : World) (out : List (Fin L.length)) (S : List Nat) (T : Nat → Prop) : Prop where
  own : OwnI wr vw S.reverse
  inT : ∀ b, vw.ownBlock = some b → T b
  row : RowB wr gm (mets L.length (nums out))
  gmT : T gm
  BsT : T Bs
  lt : ∀ g, T g → n0 ≤ g ∧ g < wr.heap.size
  j : J out T wr
  way : Way (shp L) L.length (nums out) S
  eq : go (shp L) f (nums out) S = ord (shp L) L.length
  fuel : 3 * (L.length - out.length) + S.length ≤ f
  top : f ≤ 3 * L.length + 1
  box : wr.cell? ⟨Bs, 0, none⟩ = some (.slice a L.length cap)
  rd : RdB n0 wr a L
end Go.Proofs.Ytbchinfmdioijaa
