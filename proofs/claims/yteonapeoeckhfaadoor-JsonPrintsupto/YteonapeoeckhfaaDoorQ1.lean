import Derived.Test.YteonapeoeckhfaaDoorJ2
import Derived.Test.YteonapeoeckhfaaDoorJ3
import Derived.Test.YteonapeoeckhfaaDoorJ4
set_option linter.unusedVariables false
set_option linter.unusedSimpArgs false
namespace Go.Proofs.YteonapeoeckhfaaDoor
open Go.RowKit Go.Shelf
/-- The reference's reading: its text, how far it has come, what is wrong and where. -/
structure Rg (w : World) (b : Nat) (ta : Option Addr) (c : Nat) (s : List UInt8) (k y z : Nat) : Prop where
  box : w.heap[b]? = some (.cells #[.slice ta s.length c, .int .i64 (k : Int), .int .i64 (y : Int), .int .i64 (z : Int)] 55 (0, 0))
  rd : RdB w ta s
theorem Rg.cells {w : World} {b c k y z : Nat} {ta : Option Addr} {s : List UInt8} (h : Rg w b ta c s k y z) :
    w.cell? ⟨b, 0, none⟩ = some (.slice ta s.length c) ∧ w.cell? ⟨b, 1, none⟩ = some (.int .i64 (k : Int)) ∧ w.cell? ⟨b, 2, none⟩ = some (.int .i64 (y : Int)) ∧ w.cell? ⟨b, 3, none⟩ = some (.int .i64 (z : Int)) ∧
    w.frozen? ⟨b, 1, none⟩ = false ∧ w.frozen? ⟨b, 2, none⟩ = false ∧ w.frozen? ⟨b, 3, none⟩ = false := by
  refine ⟨?_, ?_, ?_, ?_, frozen_of_row w b 1 _ 55 h.box, frozen_of_row w b 2 _ 55 h.box, frozen_of_row w b 3 _ 55 h.box⟩
  · rw [cell_of_row w b 0 _ 55 (0, 0) h.box]; rfl
  · rw [cell_of_row w b 1 _ 55 (0, 0) h.box]; rfl
  · rw [cell_of_row w b 2 _ 55 (0, 0) h.box]; rfl
  · rw [cell_of_row w b 3 _ 55 (0, 0) h.box]; rfl
theorem Rg.lt {w : World} {b c k y z : Nat} {ta : Option Addr} {s : List UInt8} (h : Rg w b ta c s k y z) : b < w.heap.size := (Array.getElem?_eq_some_iff.1 h.box).1
theorem Rg.ne {w : World} {b c k y z : Nat} {s : List UInt8} {tb o : Nat} (h : Rg w b (some ⟨tb, o, none⟩) c s k y z) {j : Nat} (hj : j < s.length) : tb ≠ b := by
  intro e
  subst e
  obtain ⟨tb', o', e1, hc⟩ := h.rd j hj
  simp only [Option.some.injEq, Addr.mk.injEq, and_true] at e1
  obtain ⟨rfl, rfl⟩ := e1
  rw [cell_of_row w tb _ _ 55 (0, 0) h.box] at hc
  match hq : o + j, hc with
  | 0, hc => simp at hc
  | 1, hc => simp at hc
  | 2, hc => simp at hc
  | 3, hc => simp at hc
  | q + 4, hc => simp at hc
theorem Rg.move {w w' : World} {b c k y z : Nat} {ta : Option Addr} {s : List UInt8} (h : Rg w b ta c s k y z) (hk : Kb b w w') (k' y' z' : Nat) (hb : w'.heap[b]? = some (.cells #[.slice ta s.length c, .int .i64 (k' : Int), .int .i64 (y' : Int), .int .i64 (z' : Int)] 55 (0, 0))) : Rg w' b ta c s k' y' z' := by
  refine ⟨hb, fun i hi => ?_⟩
  obtain ⟨tb, o, rfl, hc⟩ := h.rd i hi
  exact ⟨tb, o, rfl, hk.cell hc (h.ne hi)⟩
theorem Rg.setK {w : World} {b c k y z : Nat} {ta : Option Addr} {s : List UInt8} (h : Rg w b ta c s k y z) (j : Nat) : Rg (w.setCell ⟨b, 1, none⟩ (.int .i64 (j : Int))) b ta c s j y z := by
  have := heap_setCell_same w b 1 _ 55 (.int .i64 (j : Int)) h.box
  refine h.move ((Kb.refl b w).set 1 _) j y z ?_
  rw [this]; rfl
theorem Rg.setY {w : World} {b c k y z : Nat} {ta : Option Addr} {s : List UInt8} (h : Rg w b ta c s k y z) (j : Nat) : Rg (w.setCell ⟨b, 2, none⟩ (.int .i64 (j : Int))) b ta c s k j z := by
  have := heap_setCell_same w b 2 _ 55 (.int .i64 (j : Int)) h.box
  refine h.move ((Kb.refl b w).set 2 _) k j z ?_
  rw [this]; rfl
theorem Rg.setZ {w : World} {b c k y z : Nat} {ta : Option Addr} {s : List UInt8} (h : Rg w b ta c s k y z) (j : Nat) : Rg (w.setCell ⟨b, 3, none⟩ (.int .i64 (j : Int))) b ta c s k y j := by
  have := heap_setCell_same w b 3 _ 55 (.int .i64 (j : Int)) h.box
  refine h.move ((Kb.refl b w).set 3 _) k y j ?_
  rw [this]; rfl
theorem Rg.drewN {w : World} {b c k y z : Nat} {ta : Option Addr} {s : List UInt8} (h : Rg w b ta c s k y z) (n : Nat) : Rg (w.drewN n) b ta c s k y z := ⟨h.box, h.rd⟩
theorem Rg.keep {w w' : World} {b c k y z : Nat} {ta : Option Addr} {s : List UInt8} (h : Rg w b ta c s k y z) (hk : Keep w w') : Rg w' b ta c s k y z := by
  refine ⟨hk.at h.box, fun i hi => ?_⟩
  obtain ⟨tb, o, e, hc⟩ := h.rd i hi
  exact ⟨tb, o, e, hk.cell hc⟩
set_option maxRecDepth 100000 in
set_option maxHeartbeats 2000000 in
theorem rok_any (b c k y z : Nat) (ta : Option Addr) (s : List UInt8) (w : World) (h : Rg w b ta c s k y z) :
    Calls Tryd.prog 26 #[.pointer (some ⟨b, 0, none⟩)] w fun e w' => e = .returned (.bool ((y : Int) == 0)) ∧ w' = w := by
  obtain ⟨c0, c1, c2, c3, -⟩ := h.cells
  clear h
  go_enter Tryd.func26, Tryd.ntmps26
  go_wp2
  go_ret
  exact ⟨rfl, rfl⟩
set_option maxRecDepth 100000 in
set_option maxHeartbeats 2000000 in
theorem rfail_any (b c k z why at_ : Nat) (ta : Option Addr) (s : List UInt8) (w : World) (h : Rg w b ta c s k 0 z) :
    Calls Tryd.prog 28 #[.pointer (some ⟨b, 0, none⟩), .int .i64 (why : Int), .int .i64 (at_ : Int)] w fun e w' => e = .returned (.tuple #[]) ∧ Rg w' b ta c s k why at_ ∧ Kb b w w' := by
  obtain ⟨c0, c1, c2, c3, f1, f2, f3⟩ := h.cells
  have q1 := (h.setY why).setZ at_
  have q2 := ((Kb.refl b w).set 2 (.int .i64 (why : Int))).set 3 (.int .i64 (at_ : Int))
  clear h
  go_enter Tryd.func28, Tryd.ntmps28
  go_wp2
  go_end0
  exact ⟨rfl, q1, q2⟩
set_option maxRecDepth 100000 in
set_option maxHeartbeats 2000000 in
theorem rfail_old (b c k y z why at_ : Nat) (ta : Option Addr) (s : List UInt8) (w : World) (h : Rg w b ta c s k y z) (hy : y ≠ 0) :
    Calls Tryd.prog 28 #[.pointer (some ⟨b, 0, none⟩), .int .i64 (why : Int), .int .i64 (at_ : Int)] w fun e w' => e = .returned (.tuple #[]) ∧ w' = w := by
  obtain ⟨c0, c1, c2, c3, f1, f2, f3⟩ := h.cells
  have hb : ((y : Int) == 0) = false := by rw [beq_eq_false_iff_ne]; omega
  clear h hy
  go_enter Tryd.func28, Tryd.ntmps28
  go_wp2
  go_end0
  exact ⟨rfl, rfl⟩
set_option maxRecDepth 100000 in
set_option maxHeartbeats 2000000 in
theorem rnext_any (b c k y z : Nat) (ta : Option Addr) (s : List UInt8) (w : World) (hs : s.length ≤ 140737488355328) (hk : k ≤ s.length) (h : Rg w b ta c s k y z) :
    Calls Tryd.prog 63 #[.pointer (some ⟨b, 0, none⟩)] w fun e w' => e = .returned (.int .u8 (nx s k : Int)) ∧ Rg w' b ta c s k y z ∧ Kb b w w' := by
  have HR : Hid (Rg w b ta c s k y z) := h
  obtain ⟨c0, c1, -⟩ := h.cells
  obtain ⟨L, hL⟩ : ∃ L, s.length = L := ⟨_, rfl⟩
  have hnx : nx s k = if k < L then (s.getD k 0).toNat else 0 := by unfold nx; rw [hL]
  rw [hnx]
  rw [hL] at hs hk c0
  by_cases hkl : k < L
  · obtain ⟨tb, o, rfl, hc⟩ := h.rd k (by omega)
    clear h
    have hlt : decide ((k : Int) < (L : Int)) = true := decide_eq_true (by omega)
    have hltz : (k : Int) < (L : Int) := by omega
    have hkz : (0 : Int) ≤ (k : Int) ∧ (k : Int) < (L : Int) := by omega
    obtain ⟨x, hx⟩ : ∃ x, (s.getD k 0).toNat = x := ⟨_, rfl⟩
    rw [hx] at hc
    rw [if_pos hkl, hx]
    clear hnx hx hL
    go_enter Tryd.func63, Tryd.ntmps63
    go_wp2_with fail
    go_quiet (fail)
    go_wp2_with fail
    go_quiet (fail)
    go_wp2_with fail
    go_ret
    exact ⟨rfl, (HR.out.drewN _).drewN _, ((Kb.refl b w).drewN _).drewN _⟩
  · have hlt : decide ((k : Int) < (L : Int)) = false := decide_eq_false (by omega)
    have hltz : ¬ (k : Int) < (L : Int) := by omega
    rw [if_neg hkl]
    clear h hnx hL
    go_enter Tryd.func63, Tryd.ntmps63
    go_wp2_with fail
    go_quiet (fail)
    go_wp2_with fail
    go_ret
    exact ⟨rfl, HR.out.drewN _, (Kb.refl b w).drewN _⟩
set_option maxRecDepth 100000 in
set_option maxHeartbeats 2000000 in
theorem risDigit_any (n : Nat) (w : World) : Calls Tryd.prog 48 #[.int .u8 (n : Int)] w fun e w' => e = .returned (.bool (decide (48 ≤ n ∧ n ≤ 57))) ∧ w' = w := by
  by_cases h1 : 48 ≤ n
  · have a1 : decide ((n : Int) ≥ 48) = true := decide_eq_true (by omega)
    have a2 : (n : Int) ≥ 48 := by omega
    by_cases h2 : n ≤ 57
    · rw [decide_eq_true (show 48 ≤ n ∧ n ≤ 57 from ⟨h1, h2⟩)]
      have b1 : (n : Int) ≤ 57 := by omega
      clear h1 h2
      go_enter Tryd.func48, Tryd.ntmps48
      go_wp2
      go_ret
      exact ⟨rfl, rfl⟩
    · rw [decide_eq_false (show ¬ (48 ≤ n ∧ n ≤ 57) from fun q => h2 q.2)]
      have b1 : ¬ (n : Int) ≤ 57 := by omega
      clear h1 h2
      go_enter Tryd.func48, Tryd.ntmps48
      go_wp2
      go_ret
      exact ⟨rfl, rfl⟩
  · rw [decide_eq_false (show ¬ (48 ≤ n ∧ n ≤ 57) from fun q => h1 q.1)]
    have a2 : ¬ (n : Int) ≥ 48 := by omega
    clear h1
    go_enter Tryd.func48, Tryd.ntmps48
    go_wp2
    go_ret
    exact ⟨rfl, rfl⟩
end Go.Proofs.YteonapeoeckhfaaDoor
