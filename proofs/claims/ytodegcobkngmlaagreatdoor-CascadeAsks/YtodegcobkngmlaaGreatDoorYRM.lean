import Derived.Test.YtodegcobkngmlaaGreatDoorProg
import Derived.Test.YtodegcobkngmlaaGreatDoorYT5
import Derived.RangeFuncBox
import Derived.RangeFuncLeaves
import Derived.RangeFuncCalls
import Derived.RangeFuncRecord
import Derived.Below
set_option linter.unusedVariables false
set_option linter.unusedSimpArgs false
namespace Go.Proofs.YtodegcobkngmlaaGreatDoor
open Go.RowKit
/-- An iterator with memory of its own, of which a round may read. -/
def SeqM {α : Type} (n : Nat) (P : Program) (gf : Nat) (lb : Array Value) (encs : α → Array Value) (n0 : Nat) (T0 : Nat → Prop) (S Sp : List α → Prop) (M : α → (Nat → Prop) → World → Prop) (N : Nat) (w : World) : Prop :=
  ∀ (l : Nat) (J : List α → (Nat → Prop) → World → Prop) (Jx : List α → World → Prop) (W : World), Below w.heap.size w W →
    (∀ pre T A B, J pre T A → Stp T A B → J pre (more T A B) B) →
    (∀ pre x T A, J pre T A → M x T A → pre.length < N → YieldAt Fence.wide (n - 1) P l (encs x) A fun e A' =>
      (e = .returned (.bool true) ∧ J (pre ++ [x]) T A' ∧ Kpt n0 T A A') ∨ (e = .returned (.bool false) ∧ Jx (pre ++ [x]) A')) →
    J [] T0 W →
    CallsIn Fence.wide n P gf (#[.func (.yield l) #[] #[]] ++ lb) W fun e W' => (∃ v, e = .returned v) ∧ ((∃ xs T, S xs ∧ J xs T W') ∨ (∃ pre, Sp pre ∧ Jx pre W'))
theorem wp_rangeM {α : Type} {P : Program} {n : Nat} {g : Operand} {ps : Array Tmp} {assign body : Code} {Q : Exit → Act → World → Prop} {a : Act} {w : World} (h1 : 1 ≤ n) {gf : Nat} {lb : Array Value}
    (hg : a.eval g = .func (.func gf) #[] lb) (eg : ∀ args w, (callFunc gf args).run P w = .ok (.enter gf args) w) {encs : α → Array Value} {n0 : Nat} {T0 : Nat → Prop} {S Sp : List α → Prop} {M : α → (Nat → Prop) → World → Prop} {N : Nat} {w0 : World}
    (hseq : SeqM (n - 1) P gf lb encs n0 T0 S Sp M N w0) (hM : ∀ x T A B, M x T A → (∀ g, T g → B.heap[g]? = A.heap[g]?) → M x T B) (hb0 : Below w0.heap.size w0 w) (hps : ∀ x, (encs x).size = ps.size) (hn0 : n0 ≤ w.heap.size) (hT0 : ∀ g, T0 g → g < w.heap.size)
    (I : List α → (Nat → Prop) → World → Prop) (Ix : Code → List α → World → Prop) (hI1 : ∀ pre T A B, I pre T A → Stp T A B → I pre (more T A B) B)
    (hI2 : ∀ pre T A r o', I pre T A → w.heap.size ≤ r → r < w.heap.size + 2 → r < A.heap.size → I pre T (A.putObj r o')) (hIx2 : ∀ c pre A r o', Ix c pre A → w.heap.size ≤ r → r < w.heap.size + 2 → r < A.heap.size → Ix c pre (A.putObj r o'))
    (h0 : ∀ W, Stp (fun _ => False) w W → I [] T0 W) (a₁ : α → Act)
    (hassign : ∀ (l : Nat) (x : α) (W : World) (K : Act → World → Prop), K (a₁ x) W → assign.wpIn (Fence.wide.inRound l) (n - 1 - 1) P (Exit.then K (fun _ _ _ => False)) { tmps := (ps.zip (encs x)).foldl (fun t (p, v) => t.setIfInBounds p v) a.tmps, defers := [] } W)
    (hbody : ∀ (l : Nat) (pre : List α) (x : α) (T : Nat → Prop) (W : World), I pre T W → M x T W → pre.length < N → (∀ g, T g → g < w.heap.size ∨ w.heap.size + 2 ≤ g) → w.heap.size + 2 ≤ W.heap.size → body.wpIn (Fence.wide.inRound l) (n - 1 - 1) P (postT w.heap.size n0 T I Ix (pre ++ [x]) W) (a₁ x) W)
    (hdone : ∀ xs T W, S xs → I xs T W → W.heap[w.heap.size]? = some (.deferred (some [])) → Q .normal { a with defers := { target := .collected w.heap.size, args := #[] } :: a.defers } W)
    (hstop : ∀ c pre W, Sp pre → Ix c pre W → W.heap[w.heap.size]? = some (.deferred (some [])) → c.wpIn Fence.wide n P Q { a with defers := { target := .collected w.heap.size, args := #[] } :: a.defers } W) :
    (Code.rangeFunc g ps assign body).wpIn Fence.wide n P Q a w := by
  refine wpIn_rangeFunc fun fn hfn => ?_
  obtain ⟨s, hs⟩ : ∃ s, w.heap.size = s := ⟨_, rfl⟩
  let rec0 (st : LoopState) (pe : Option Code) : Loop := { state := st, pending := pe, fn, tmps := a.tmps, params := ps, assign, body, defers := s }
  obtain ⟨W1, hW1⟩ : ∃ W1, (w.alloc (.deferred (some []))).alloc (.loop (rec0 .ready none)) = W1 := ⟨_, rfl⟩
  have e0 : (Instr.enterLoop fn a.tmps ps assign body Fence.wide.round).run P w = .ok (s + 1, [{ target := .collected s, args := #[] }]) W1 := by
    rw [← hW1, ← hs]
    have := run_enterLoop_outer (P := P) (w := w) fn a.tmps ps assign body
    simp only [rec0, ← hs]
    exact this
  have sz1 : W1.heap.size = s + 2 := by rw [← hW1]; simp [hs]
  have d1 : W1.heap[s]? = some (.deferred (some [])) := by
    rw [← hW1, ← hs]
    exact (Below.heap_alloc _ _ _ (by simp)).trans (World.alloc_heap_new w _)
  have l1 : W1.heap[s + 1]? = some (.loop (rec0 .ready none)) := by
    rw [← hW1, ← hs]
    have := World.alloc_heap_new (w.alloc (.deferred (some []))) (.loop (rec0 .ready none))
    rw [World.size_alloc] at this
    exact this
  have st1 : Stp (fun _ => False) w W1 := by
    have hb : Below w.heap.size w W1 := by rw [← hW1]; exact ((Below.refl _ w).alloc (Nat.le_refl _) _).alloc (by simp) _
    exact ⟨hb.os, hb.tape, hb.output, hb.size, fun g hg _ => hb.block g hg⟩
  have b1 : Below w0.heap.size w0 W1 := by
    refine hb0.trans (Below.mono ?_ hb0.size)
    rw [← hW1]
    exact ((Below.refl _ w).alloc (Nat.le_refl _) _).alloc (by simp) _
  refine ⟨s + 1, [{ target := .collected s, args := #[] }], W1, { target := .fn (.func gf) lb, args := #[.func (.yield (s + 1)) #[] #[]] }, W1, gf, #[.func (.yield (s + 1)) #[] #[]] ++ lb, W1, e0, ?_, ?_, ?_, fun _ => h1, ?_⟩
  · simp only [resolve, hg]
    simp [go_sem]
  · intro f' hf'
    trivial
  · simp [invoke, go_sem, eg]
  · rw [hs] at hn0 hT0 hI2 hIx2 hbody hdone hstop
    have hT1 : ∀ T A B, (∀ g, T g → g < s ∨ s + 2 ≤ g) → s + 2 ≤ A.heap.size → ∀ g, more T A B g → g < s ∨ s + 2 ≤ g := by
      intro T A B h h2 g hg
      rcases hg with hg | hg
      · exact h g hg
      · omega
    refine (hseq (s + 1) (fun pre T W => I pre T W ∧ W.heap[s + 1]? = some (.loop (rec0 .ready none)) ∧ W.heap[s]? = some (.deferred (some [])) ∧ (∀ g, T g → g < s ∨ s + 2 ≤ g) ∧ s + 2 ≤ W.heap.size)
      (fun pre W => ∃ c, Ix c pre W ∧ W.heap[s + 1]? = some (.loop (rec0 .done (some c))) ∧ W.heap[s]? = some (.deferred (some []))) W1 b1 ?_ ?_ ⟨h0 W1 st1, l1, d1, fun g hg => .inl (hT0 g hg), by omega⟩).mono ?_
    · rintro pre T A B ⟨hi, hl, hd, ht, hz⟩ hst
      refine ⟨hI1 pre T A B hi hst, ?_, ?_, hT1 T A B ht hz, Nat.le_trans hz hst.size⟩
      · rw [hst.block (s + 1) (by omega) (fun h => by have := ht _ h; omega)]; exact hl
      · rw [hst.block s (by omega) (fun h => by have := ht _ h; omega)]; exact hd
    · rintro pre x T A ⟨hi, hl, hd, ht, hz⟩ hMx hlen
      have nT0 : ¬ T s := fun h => by have := ht _ h; omega
      have nT1 : ¬ T (s + 1) := fun h => by have := ht _ h; omega
      refine ⟨fn, _, assign, body, run_yield (P := P) (args := encs x) hl (hps x), roundIn_of_wpIn hfn (hassign _ x A _ ⟨_, run_beginRound hl rfl, ?_⟩)⟩
      have sB : (A.putObj (s + 1) (.loop { rec0 .ready none with state := .busy })).heap.size = A.heap.size := World.putObj_size
      have lB : (A.putObj (s + 1) (.loop { rec0 .ready none with state := .busy })).heap[s + 1]? = some (.loop { rec0 .ready none with state := .busy }) := World.putObj_heap_same (by omega)
      have dB : (A.putObj (s + 1) (.loop { rec0 .ready none with state := .busy })).heap[s]? = some (.deferred (some [])) := (World.putObj_heap_other (by omega)).trans hd
      have kB : Kpt n0 T A (A.putObj (s + 1) (.loop { rec0 .ready none with state := .busy })) := Kpt.put A (s + 1) _ (by omega) nT1
      have iB := hI2 pre T A (s + 1) (.loop { rec0 .ready none with state := .busy }) hi (by omega) (by omega) (by omega)
      have mB : M x T (A.putObj (s + 1) (.loop { rec0 .ready none with state := .busy })) := hM x T A _ hMx (fun g hg => World.putObj_heap_other (fun e => by subst e; exact nT1 hg))
      generalize A.putObj (s + 1) (.loop { rec0 .ready none with state := .busy }) = A2 at sB lB dB kB iB mB
      refine wpIn_mono (hbody _ pre x T A2 iB mB hlen ht (by omega)) ?_
      intro e a3 W3 hp
      have fin : ∀ jump : Option Code, (W3.heap[s]? = A2.heap[s]? ∧ W3.heap[s + 1]? = A2.heap[s + 1]?) →
          (Instr.endRound (s + 1) jump).run P W3 = .ok (.bool jump.isNone) (W3.putObj (s + 1) (.loop (rec0 (if jump.isNone then .ready else .done) jump))) ∧ s + 1 < W3.heap.size ∧
          (W3.putObj (s + 1) (.loop (rec0 (if jump.isNone then .ready else .done) jump))).heap[s + 1]? = some (.loop (rec0 (if jump.isNone then .ready else .done) jump)) ∧
          (W3.putObj (s + 1) (.loop (rec0 (if jump.isNone then .ready else .done) jump))).heap[s]? = some (.deferred (some [])) := by
        intro jump hh
        have l3 : W3.heap[s + 1]? = some (.loop { rec0 .ready none with state := .busy }) := hh.2.trans lB
        have hlt : s + 1 < W3.heap.size := (Array.getElem?_eq_some_iff.1 l3).1
        exact ⟨run_endRound (P := P) jump l3, hlt, World.putObj_heap_same hlt, (World.putObj_heap_other (by omega)).trans (hh.1.trans dB)⟩
      cases e with
      | normal =>
        obtain ⟨hh, hk, hi3⟩ := hp
        obtain ⟨q1, q2, q3, q4⟩ := fin none hh
        refine ⟨_, _, q1, .inl ⟨rfl, ⟨hI2 _ T W3 (s + 1) _ hi3 (by omega) (by omega) q2, q3, q4, ht, ?_⟩, (kB.trans hk).trans (Kpt.put W3 (s + 1) _ (by omega) nT1)⟩⟩
        have := hk.size
        rw [World.putObj_size]
        omega
      | ret =>
        obtain ⟨hh, hi3⟩ := hp
        obtain ⟨q1, q2, q3, q4⟩ := fin (some .ret) hh
        exact ⟨_, _, q1, .inr ⟨rfl, .ret, hIx2 _ _ W3 (s + 1) _ hi3 (by omega) (by omega) q2, q3, q4⟩⟩
      | exit id =>
        obtain ⟨hh, hi3⟩ := hp
        obtain ⟨q1, q2, q3, q4⟩ := fin (some (.exit id)) hh
        exact ⟨_, _, q1, .inr ⟨rfl, .exit id, hIx2 _ _ W3 (s + 1) _ hi3 (by omega) (by omega) q2, q3, q4⟩⟩
      | goto t =>
        obtain ⟨hh, hi3⟩ := hp
        obtain ⟨q1, q2, q3, q4⟩ := fin (some (.goto t)) hh
        exact ⟨_, _, q1, .inr ⟨rfl, .goto t, hIx2 _ _ W3 (s + 1) _ hi3 (by omega) (by omega) q2, q3, q4⟩⟩
      | panic ch => exact hp.elim
      | outgrown => exact hp.elim
    · rintro e W2 ⟨⟨v, rfl⟩, (⟨xs, T, hS, hi, hl, hd, ht, hz⟩ | ⟨pre, hSp, c, hi, hl, hd⟩)⟩
      · refine ⟨none, _, run_endLoop (P := P) hl (by simp [rec0]), ?_⟩
        exact hdone xs T _ hS (hI2 _ T W2 (s + 1) _ hi (by omega) (by omega) (by omega)) ((World.putObj_heap_other (by omega)).trans hd)
      · have hlt : s + 1 < W2.heap.size := (Array.getElem?_eq_some_iff.1 hl).1
        refine ⟨some c, _, run_endLoop (P := P) hl (by simp [rec0]), ?_⟩
        exact hstop c pre _ hSp (hIx2 c pre W2 (s + 1) _ hi (by omega) (by omega) hlt) ((World.putObj_heap_other (by omega)).trans hd)
end Go.Proofs.YtodegcobkngmlaaGreatDoor
