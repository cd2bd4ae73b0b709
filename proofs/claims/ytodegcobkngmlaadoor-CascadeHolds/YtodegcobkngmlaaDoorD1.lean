import Derived.Test.YtodegcobkngmlaaDoorProg
import Derived.Test.YtodegcobkngmlaaDoorC1
import Derived.Test.YtodegcobkngmlaaDoorYT5
import Derived.WalkKit
import Derived.WalkSpells
import Derived.WalkLawsBesides
import Derived.Deep.Draws
import Derived.Deep.QuietTactic
import Derived.BigQuiet
import Derived.Laws.Externs
import Derived.Laws.CopyOwn
import Derived.Shelf.Abstract
import Derived.Deep.RegionLaw
import Derived.BigRegion
import Derived.Deep.RegionHeld3
set_option linter.unusedVariables false
set_option linter.unusedSimpArgs false
namespace Go.Proofs.YtodegcobkngmlaaDoor
open Go.RowKit Go.Shelf
attribute [local go_sem] run_store_func
abbrev nvs (n : Nd) (ca : Option Addr) (cap : Nat) : Array Value := #[.int .u8 n.kd, .int .i64 n.vl, .int .i64 n.ft, .float .f64 n.th, .slice ca n.cs.length cap, .int .u8 n.ms, .int .i64 n.lf, .int .i64 n.rt]
theorem cells8 {T : Nat} {w : World} {g : Nat} {x0 x1 x2 x3 x4 x5 x6 x7 : Value} (h : w.heap[g]? = some (.cells #[x0, x1, x2, x3, x4, x5, x6, x7] T (0, 0))) : w.cell? ⟨g, 0, none⟩ = some x0 ∧ w.cell? ⟨g, 1, none⟩ = some x1 ∧ w.cell? ⟨g, 2, none⟩ = some x2 ∧ w.cell? ⟨g, 3, none⟩ = some x3 ∧ w.cell? ⟨g, 4, none⟩ = some x4 ∧ w.cell? ⟨g, 5, none⟩ = some x5 ∧ w.cell? ⟨g, 6, none⟩ = some x6 ∧ w.cell? ⟨g, 7, none⟩ = some x7 :=
  ⟨by rw [cell_of_row _ _ 0 _ T (0, 0) h]; rfl, by rw [cell_of_row _ _ 1 _ T (0, 0) h]; rfl, by rw [cell_of_row _ _ 2 _ T (0, 0) h]; rfl, by rw [cell_of_row _ _ 3 _ T (0, 0) h]; rfl, by rw [cell_of_row _ _ 4 _ T (0, 0) h]; rfl, by rw [cell_of_row _ _ 5 _ T (0, 0) h]; rfl, by rw [cell_of_row _ _ 6 _ T (0, 0) h]; rfl, by rw [cell_of_row _ _ 7 _ T (0, 0) h]; rfl⟩
def kdB (n : Nd) (k : Nat) : Bool := n.kd == k
def innB (n : Nd) : Bool := kdB n 2 || kdB n 3
theorem kd_int (n : Nd) (k : Nat) : ((n.kd : Int) == (k : Int)) = kdB n k := by unfold kdB; rw [Bool.eq_iff_iff]; simp only [beq_iff_eq]; omega
theorem kd_ne (n : Nd) (k : Nat) : ((n.kd : Int) != (k : Int)) = !kdB n k := by rw [bne, kd_int]
def msB (n : Nd) (k : Nat) : Bool := n.ms == k
theorem ms_int (n : Nd) (k : Nat) : ((n.ms : Int) == (k : Int)) = msB n k := by unfold msB; rw [Bool.eq_iff_iff]; simp only [beq_iff_eq]; omega
theorem ms_ne (n : Nd) (k : Nat) : ((n.ms : Int) != (k : Int)) = !msB n k := by rw [bne, ms_int]
theorem ruleInner_any (n : Nd) (ca : Option Addr) (cap : Nat) (w : World) : Calls Tryd.prog 77 #[.agg (nvs n ca cap)] w fun e w' => e = .returned (.bool (innB n)) ∧ Keep w w' := by
  obtain ⟨w1, hw1, k1, t1, s1⟩ := boxed w (nvs n ca cap) 67
  obtain ⟨c0, -⟩ := cells8 t1
  have e2 : ((n.kd : Int) == 2) = kdB n 2 := kd_int n 2
  have e3 : ((n.kd : Int) == 3) = kdB n 3 := kd_int n 3
  have H : Hid (innB n = (kdB n 2 || kdB n 3)) := rfl
  cases h2 : kdB n 2 with
  | true =>
    rw [h2] at e2 H
    clear h2
    go_enter Tryd.func77, Tryd.ntmps77
    go_wp2_with (rw [hw1])
    go_ret
    exact ⟨by rw [H.out]; rfl, k1⟩
  | false =>
    rw [h2] at e2 H
    clear h2
    go_enter Tryd.func77, Tryd.ntmps77
    go_wp2_with (rw [hw1])
    go_ret
    exact ⟨by rw [H.out, Bool.false_or]; rfl, k1⟩
def vlB (n : Nd) : Bool := n.vl == 0
def csB (n : Nd) : Bool := (n.cs.length : Int) == 0
def thB (n : Nd) : Bool := (n.th : Int) == 0
def ftB0 (n : Nd) : Bool := n.ft == 0
def lfB (n : Nd) : Bool := n.lf == 0
def rtB (n : Nd) : Bool := n.rt == 0
/-- The fields that a node's kind does not use are zero. -/
def restB (n : Nd) : Bool := if kdB n 2 = true then vlB n && csB n else if kdB n 3 = true then vlB n && thB n else thB n && csB n && ftB0 n && msB n 0 && lfB n && rtB n
theorem f64b (x : Nat) (w : World) : (callFunc 73 #[.float .f64 x]).run Tryd.prog w = .ok (.value (.int .u64 (x : Nat))) w := f64bits x w
set_option maxRecDepth 100000 in
set_option maxHeartbeats 1000000 in
theorem restZero_any (n : Nd) (ca : Option Addr) (cap : Nat) (w : World) : Calls Tryd.prog 79 #[.agg (nvs n ca cap)] w fun e w' => e = .returned (.bool (restB n)) ∧ Keep w w' := by
  obtain ⟨w1, hw1, k1, t1, s1⟩ := boxed w (nvs n ca cap) 67
  obtain ⟨c0, c1, c2, c3, c4, c5, c6, c7⟩ := cells8 t1
  have e2 : ((n.kd : Int) == 2) = kdB n 2 := kd_int n 2
  have e3 : ((n.kd : Int) == 3) = kdB n 3 := kd_int n 3
  have e5 : ((n.ms : Int) == 0) = msB n 0 := ms_int n 0
  have ev : (n.vl == 0) = vlB n := rfl
  have ec : ((n.cs.length : Int) == 0) = csB n := rfl
  have et : ((n.th : Int) == 0) = thB n := rfl
  have ef : (n.ft == 0) = ftB0 n := rfl
  have el : (n.lf == 0) = lfB n := rfl
  have er : (n.rt == 0) = rtB n := rfl
  have fb := f64b n.th
  have H : Hid (restB n = if kdB n 2 = true then vlB n && csB n else if kdB n 3 = true then vlB n && thB n else thB n && csB n && ftB0 n && msB n 0 && lfB n && rtB n) := rfl
  generalize restB n = r at H ⊢
  generalize kdB n 2 = b2 at e2 H
  generalize kdB n 3 = b3 at e3 H
  generalize msB n 0 = b5 at e5 H
  generalize vlB n = bv at ev H
  generalize csB n = bc at ec H
  generalize thB n = bt at et H
  generalize ftB0 n = bf at ef H
  generalize lfB n = bl at el H
  generalize rtB n = br at er H
  cases b2 with
  | true =>
    cases bv <;> (go_enter Tryd.func79, Tryd.ntmps79; go_wp2_with (rw [hw1]); go_ret; exact ⟨by rw [H.out]; rfl, k1⟩)
  | false =>
    cases b3 with
    | true => cases bv <;> (go_enter Tryd.func79, Tryd.ntmps79; go_wp2_with (rw [hw1]); go_ret; exact ⟨by rw [H.out]; rfl, k1⟩)
    | false =>
      cases bt with
      | false => (go_enter Tryd.func79, Tryd.ntmps79; go_wp2_with (rw [hw1]); go_ret; exact ⟨by rw [H.out]; rfl, k1⟩)
      | true =>
        cases bc with
        | false => (go_enter Tryd.func79, Tryd.ntmps79; go_wp2_with (rw [hw1]); go_ret; exact ⟨by rw [H.out]; rfl, k1⟩)
        | true =>
          cases bf with
          | false => (go_enter Tryd.func79, Tryd.ntmps79; go_wp2_with (rw [hw1]); go_ret; exact ⟨by rw [H.out]; rfl, k1⟩)
          | true =>
            cases b5 with
            | false => (go_enter Tryd.func79, Tryd.ntmps79; go_wp2_with (rw [hw1]); go_ret; exact ⟨by rw [H.out]; rfl, k1⟩)
            | true =>
              cases bl with
              | false => (go_enter Tryd.func79, Tryd.ntmps79; go_wp2_with (rw [hw1]); go_ret; exact ⟨by rw [H.out]; rfl, k1⟩)
              | true =>
                (go_enter Tryd.func79, Tryd.ntmps79; go_wp2_with (rw [hw1]); go_ret; exact ⟨by rw [H.out]; rfl, k1⟩)
end Go.Proofs.YtodegcobkngmlaaDoor
