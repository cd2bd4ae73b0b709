import Derived.Test.YtbchinfmdioijaaT9
set_option linter.unusedVariables false
set_option linter.unusedSimpArgs false
namespace Go.Proofs.Ytbchinfmdioijaa
open Go.RowKit Go.Shelf
attribute [local go_sem] Oper.semAt_some
theorem Shape_in (n : Nat) (w : World) (a : Option Addr) (cap : Nat) (out : Int) (L : List Nd) (hLn : L.length ≤ 2199023255552) (hrd : RdN w a L) :
    CallsIn Fence.wide n Try.prog 12 #[.agg #[.int .i64 out, .slice a L.length cap]] w fun e w' => e = .returned (.tuple #[.int .i64 (shE L), .int .i64 (shI L : Nat)]) ∧ Keep w w' := callsIn_wide.2 (Shape_any w a cap out L hLn hrd)
/-- Shape is content: all nodes are right, and they are a tree. -/
theorem shE_rgt {L : List Nd} (h : shE L = 0) : Rgt L := by
  unfold shE at h
  split at h
  · cases h
  · rename_i h0
    refine ⟨by omega, ?_⟩
    cases hb : badF L L.length 0 with
    | some i => rw [hb] at h; cases h
    | none => exact fun i hi => badF_none _ _ hb i (by omega) (by omega)
/-- A list that is gathered in a box while an iterator runs. -/
structure Col (Bl Bs : Nat) (w3 : World) (l : List Nat) (T : Nat → Prop) (W : World) : Prop where
  box : ∃ v, W.heap[Bl]? = some (.cells #[v] 29 (0, 0)) ∧ OwnI W v l ∧ ∀ b, v.ownBlock = some b → ¬ T b ∧ Bs + 3 ≤ b
  tb : ∀ g, T g → Bs ≤ g ∧ g < W.heap.size
  be : Below Bl w3 W
  sz : Bs + 1 ≤ W.heap.size
theorem Col.st {Bl Bs : Nat} {w3 : World} {l : List Nat} {T : Nat → Prop} {A B : World} (hB : Bl < Bs) (h : Col Bl Bs w3 l T A) (hst : Stp T A B) : Col Bl Bs w3 l (more T A B) B := by
  obtain ⟨⟨v, h1, h2, h3⟩, h4, h5, h6⟩ := h
  have kp : ∀ g, g < Bs → g < A.heap.size → B.heap[g]? = A.heap[g]? := fun g hg hz => hst.block g hz (fun h => by have := h4 g h; omega)
  refine ⟨⟨v, ?_, ?_, ?_⟩, ?_, ?_, by have := hst.size; omega⟩
  · rw [kp Bl hB (by omega)]; exact h1
  · refine h2.same (fun b hb => ?_)
    obtain ⟨cur, hc⟩ := h2.block hb
    exact hst.block b (Array.getElem?_eq_some_iff.1 hc).1 (h3 b hb).1
  · intro b hb
    obtain ⟨cur, hc⟩ := h2.block hb
    have hlt := (Array.getElem?_eq_some_iff.1 hc).1
    refine ⟨?_, (h3 b hb).2⟩
    rintro (h | h)
    · exact (h3 b hb).1 h
    · omega
  · rintro g (h | h)
    · have := h4 g h; have := hst.size; omega
    · omega
  · exact ⟨hst.os.trans h5.os, hst.tape.trans h5.tape, hst.output.trans h5.output, by have := hst.size; have := h5.size; omega, fun g hg => (kp g (by omega) (by omega)).trans (h5.block g hg)⟩
theorem Col.put {Bl Bs : Nat} {w3 : World} {l : List Nat} {T : Nat → Prop} {A : World} {r : Nat} {o' : Obj} (hB : Bl < Bs) (h : Col Bl Bs w3 l T A) (h1 : Bs + 1 ≤ r) (h2 : r < Bs + 3) : Col Bl Bs w3 l T (A.putObj r o') := by
  obtain ⟨⟨v, q1, q2, q3⟩, q4, q5, q6⟩ := h
  have kp : ∀ g, g ≠ r → (A.putObj r o').heap[g]? = A.heap[g]? := fun g hg => World.putObj_heap_other hg
  refine ⟨⟨v, ?_, ?_, q3⟩, by simpa using q4, ?_, by simpa using q6⟩
  · rw [kp _ (by omega)]; exact q1
  · exact q2.same (fun b hb => kp b (by have := (q3 b hb).2; omega))
  · exact ⟨q5.os, q5.tape, q5.output, by simpa using q5.size, fun g hg => (kp g (by omega)).trans (q5.block g hg)⟩
/-- One more. -/
theorem Col.app {Bl Bs : Nat} {w3 : World} {l : List Nat} {T : Nat → Prop} {A B : World} {o : Obj} {v v' : Value} {x : Nat} (hB : Bl < Bs) (h : Col Bl Bs w3 l T A) (hz : Bs + 3 ≤ A.heap.size) (hbox : A.heap[Bl]? = some (.cells #[v] 29 (0, 0))) (hv3 : ∀ b, v.ownBlock = some b → ¬ T b ∧ Bs + 3 ≤ b)
    (ho : OwnI B v' (l ++ [x])) (hgr : (A.alloc o).grownBy B v.ownBlock) (hsep : v'.ownBlock = v.ownBlock ∨ v'.ownBlock = some (A.heap.size + 1)) :
    Col Bl Bs w3 (l ++ [x]) T (B.setCell ⟨Bl, 0, none⟩ v') ∧ (∀ g, g < A.heap.size → g ≠ Bl → v.ownBlock ≠ some g → (B.setCell ⟨Bl, 0, none⟩ v').heap[g]? = A.heap[g]?) ∧ B.cell? ⟨Bl, 0, none⟩ = some v ∧ B.frozen? ⟨Bl, 0, none⟩ = false ∧ A.heap.size ≤ B.heap.size := by
  have hb : Below A.heap.size A (A.alloc o) := (Below.refl A.heap.size A).alloc (Nat.le_refl _) o
  have kB : ∀ g, g < A.heap.size → v.ownBlock ≠ some g → B.heap[g]? = A.heap[g]? := fun g hg hne => by rw [hgr.block g (Nat.lt_of_lt_of_le hg hb.size) (fun e => hne e.symm), hb.block g hg]
  have hBl : v.ownBlock ≠ some Bl := fun e => by have := (hv3 Bl e).2; omega
  have boxB : B.heap[Bl]? = some (.cells #[v] 29 (0, 0)) := by rw [kB Bl (by omega) hBl]; exact hbox
  have szB : A.heap.size ≤ B.heap.size := Nat.le_trans hb.size hgr.size
  have ne := neq_set B Bl 0 v'
  have vlt : ∀ b, v'.ownBlock = some b → ¬ T b ∧ Bs + 3 ≤ b := by
    intro b e
    rcases hsep with e2 | e2
    · rw [e2] at e; exact hv3 b e
    · rw [e2] at e
      simp only [Option.some.injEq] at e
      subst e
      exact ⟨fun h' => by have := h.tb _ h'; omega, by omega⟩
  refine ⟨⟨⟨v', ?_, ?_, vlt⟩, fun g hg => by have := h.tb g hg; simp; omega, ?_, by simp; omega⟩, ?_, ?_, ?_, szB⟩
  · exact heap_setCell_same B Bl 0 _ 29 v' boxB
  · exact ho.same (fun b e => ne b (by have := (vlt b e).2; omega))
  · have h5 := h.be
    exact ⟨hgr.os.trans (hb.os.trans h5.os), hgr.tape.trans (hb.tape.trans h5.tape), hgr.output.trans (hb.output.trans h5.output), by have := h5.size; simp; omega, fun g hg => by rw [ne g (by omega), kB g (by omega) (fun e => by have := (hv3 g e).2; omega)]; exact h5.block g hg⟩
  · intro g hg h1 h2; rw [ne g h1]; exact kB g hg h2
  · rw [cell_of_row B Bl 0 _ 29 (0, 0) boxB]; rfl
  · exact frozen_of_row B Bl 0 _ 29 boxB
set_option maxRecDepth 100000 in
theorem isLeaf_any (k : Nat) (w : World) :
    Calls Try.prog 49 #[.int .u8 k] w fun e w' => e = .returned (.bool (!decide (k = 2 ∨ k = 3))) ∧ w' = w := by
  have h := isInner_any k
  generalize decide (k = 2 ∨ k = 3) = b at h ⊢
  go_enter Try.func49, Try.ntmps49
  go_wp2_with (go_at_call 50; refine (h _).mono ?_; rintro e w' ⟨rfl, rfl⟩)
  go_ret
  exact ⟨rfl, rfl⟩
end Go.Proofs.Ytbchinfmdioijaa
