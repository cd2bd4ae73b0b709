import Derived.Test.YtinjikoocegooaaGreatDoorProg
import Derived.Test.YtinjikoocegooaaGreatDoorN1
import Derived.WalkKit
import Derived.WalkSpells
import Derived.WalkLawsBesides
import Derived.Deep.Draws
import Derived.Deep.QuietTactic
import Derived.BigQuiet
import Derived.Laws.Externs
import Derived.Laws.CopyOwn
import Derived.Shelf.Abstract
import Derived.Deep.RegionLaw
import Derived.BigRegion
import Derived.Deep.RegionHeld3
set_option linter.unusedVariables false
set_option linter.unusedSimpArgs false
namespace Go.Proofs.YtinjikoocegooaaGreatDoor
open Go.RowKit Go.Shelf
theorem heap3 {T : Nat} (w : World) (g : Nat) {x0 x1 x2 : Value} (v0 v1 v2 : Value) (h : w.heap[g]? = some (.cells #[x0, x1, x2] T (0, 0))) :
    (((w.setCell ⟨g, 0, none⟩ v0).setCell ⟨g, 1, none⟩ v1).setCell ⟨g, 2, none⟩ v2).heap[g]? = some (.cells #[v0, v1, v2] T (0, 0)) := by
  have a0 := heap_setCell_same w g 0 _ T v0 h
  have a1 := heap_setCell_same _ g 1 _ T v1 a0
  have a2 := heap_setCell_same _ g 2 _ T v2 a1
  simpa using a2
theorem heap2 {T : Nat} (w : World) (g : Nat) {x0 x1 : Value} (v0 v1 : Value) (h : w.heap[g]? = some (.cells #[x0, x1] T (0, 0))) :
    ((w.setCell ⟨g, 0, none⟩ v0).setCell ⟨g, 1, none⟩ v1).heap[g]? = some (.cells #[v0, v1] T (0, 0)) := by
  have a0 := heap_setCell_same w g 0 _ T v0 h
  have a1 := heap_setCell_same _ g 1 _ T v1 a0
  simpa using a1
theorem heap1 {T : Nat} (w : World) (g : Nat) {x0 : Value} (v0 : Value) (h : w.heap[g]? = some (.cells #[x0] T (0, 0))) :
    (w.setCell ⟨g, 0, none⟩ v0).heap[g]? = some (.cells #[v0] T (0, 0)) := by
  have a0 := heap_setCell_same w g 0 _ T v0 h
  simpa using a0
theorem keep3 {w w' : World} (k : Keep w w') (g : Nat) (h : w.heap.size ≤ g) (v0 v1 v2 : Value) : Keep w (((w'.setCell ⟨g, 0, none⟩ v0).setCell ⟨g, 1, none⟩ v1).setCell ⟨g, 2, none⟩ v2) :=
  ((k.setCell (p := ⟨g, 0, none⟩) h v0).setCell (p := ⟨g, 1, none⟩) h v1).setCell (p := ⟨g, 2, none⟩) h v2
theorem keep2 {w w' : World} (k : Keep w w') (g : Nat) (h : w.heap.size ≤ g) (v0 v1 : Value) : Keep w ((w'.setCell ⟨g, 0, none⟩ v0).setCell ⟨g, 1, none⟩ v1) :=
  (k.setCell (p := ⟨g, 0, none⟩) h v0).setCell (p := ⟨g, 1, none⟩) h v1
/-- Cells that stand in a block. -/
theorem cells1 {T : Nat} {w : World} {g : Nat} {x0 : Value} (h : w.heap[g]? = some (.cells #[x0] T (0, 0))) : w.cell? ⟨g, 0, none⟩ = some x0 ∧ w.frozen? ⟨g, 0, none⟩ = false :=
  ⟨by rw [cell_of_row _ _ 0 _ T (0, 0) h]; rfl, frozen_of_row _ _ 0 _ T h⟩
theorem cells2 {T : Nat} {w : World} {g : Nat} {x0 x1 : Value} (h : w.heap[g]? = some (.cells #[x0, x1] T (0, 0))) : w.cell? ⟨g, 0, none⟩ = some x0 ∧ w.cell? ⟨g, 1, none⟩ = some x1 ∧ w.frozen? ⟨g, 0, none⟩ = false ∧ w.frozen? ⟨g, 1, none⟩ = false :=
  ⟨by rw [cell_of_row _ _ 0 _ T (0, 0) h]; rfl, by rw [cell_of_row _ _ 1 _ T (0, 0) h]; rfl, frozen_of_row _ _ 0 _ T h, frozen_of_row _ _ 1 _ T h⟩
theorem cells3 {T : Nat} {w : World} {g : Nat} {x0 x1 x2 : Value} (h : w.heap[g]? = some (.cells #[x0, x1, x2] T (0, 0))) : w.cell? ⟨g, 0, none⟩ = some x0 ∧ w.cell? ⟨g, 1, none⟩ = some x1 ∧ w.cell? ⟨g, 2, none⟩ = some x2 ∧ w.frozen? ⟨g, 0, none⟩ = false ∧ w.frozen? ⟨g, 1, none⟩ = false ∧ w.frozen? ⟨g, 2, none⟩ = false :=
  ⟨by rw [cell_of_row _ _ 0 _ T (0, 0) h]; rfl, by rw [cell_of_row _ _ 1 _ T (0, 0) h]; rfl, by rw [cell_of_row _ _ 2 _ T (0, 0) h]; rfl, frozen_of_row _ _ 0 _ T h, frozen_of_row _ _ 1 _ T h, frozen_of_row _ _ 2 _ T h⟩
theorem cells5 {T : Nat} {w : World} {g : Nat} {x0 x1 x2 x3 x4 : Value} (h : w.heap[g]? = some (.cells #[x0, x1, x2, x3, x4] T (0, 0))) : w.cell? ⟨g, 0, none⟩ = some x0 ∧ w.cell? ⟨g, 1, none⟩ = some x1 ∧ w.cell? ⟨g, 2, none⟩ = some x2 ∧ w.cell? ⟨g, 3, none⟩ = some x3 ∧ w.cell? ⟨g, 4, none⟩ = some x4 :=
  ⟨by rw [cell_of_row _ _ 0 _ T (0, 0) h]; rfl, by rw [cell_of_row _ _ 1 _ T (0, 0) h]; rfl, by rw [cell_of_row _ _ 2 _ T (0, 0) h]; rfl, by rw [cell_of_row _ _ 3 _ T (0, 0) h]; rfl, by rw [cell_of_row _ _ 4 _ T (0, 0) h]; rfl⟩
theorem boxed (w : World) (cs : Array Value) (T : Nat) : ∃ w1, w.alloc (Obj.cells cs T) = w1 ∧ Keep w w1 ∧ w1.heap[w.heap.size]? = some (Obj.cells cs T (0, 0)) ∧ w1.heap.size = w.heap.size + 1 := ⟨_, rfl, (Keep.refl w).alloc _, heap_alloc_new w _, by simp⟩
theorem Keep.at {w w' : World} (k : Keep w w') {g : Nat} {o : Obj} (h : w.heap[g]? = some o) : w'.heap[g]? = some o := (k.block _ (Array.getElem?_eq_some_iff.1 h).1).trans h
theorem lt_of_at {w : World} {g : Nat} {o : Obj} (h : w.heap[g]? = some o) : g < w.heap.size := (Array.getElem?_eq_some_iff.1 h).1
/-- A broken rule as a value: rule, tree, node. -/
abbrev Bk := Int × Int × Int
abbrev bkV (b : Bk) : Value := .agg #[.int .i64 b.1, .int .i64 b.2.1, .int .i64 b.2.2]
theorem ret_bk {fn : Func} {t : Tmp} (h : fn.results = #[.cell t 58]) (tmps : Array Value) (w : World) (g : Nat) (v0 v1 v2 : Value) (hp : tmps.getD t undef = .pointer (some ⟨g, 0, none⟩)) (hh : w.heap[g]? = some (.cells #[v0, v1, v2] 58 (0, 0))) :
    (results fn tmps).run Tryz.prog w = .ok (.agg #[v0, v1, v2]) w := results_cell_row h tmps w g 58 _ (0, 0) _ hp hh Tryz.underlying58 rfl (by kernel_rfl)
/-- A broken rule laid into a new box. -/
theorem boxB (w : World) (x0 x1 x2 : Value) : ∃ w9 wA, w.alloc (Obj.cells #[.int .i64 0, .int .i64 0, .int .i64 0] 58) = w9 ∧ (((w9.setCell ⟨w.heap.size, 0, none⟩ x0).setCell ⟨w.heap.size, 1, none⟩ x1).setCell ⟨w.heap.size, 2, none⟩ x2) = wA ∧ Keep w wA ∧ wA.heap[w.heap.size]? = some (.cells #[x0, x1, x2] 58 (0, 0)) ∧
    w9.cell? ⟨w.heap.size, 0, none⟩ = some (.int .i64 0) ∧ w9.cell? ⟨w.heap.size, 1, none⟩ = some (.int .i64 0) ∧ w9.cell? ⟨w.heap.size, 2, none⟩ = some (.int .i64 0) ∧ w9.frozen? ⟨w.heap.size, 0, none⟩ = false ∧ w9.frozen? ⟨w.heap.size, 1, none⟩ = false ∧ w9.frozen? ⟨w.heap.size, 2, none⟩ = false := by
  obtain ⟨w9, hw9, k9, t9, s9⟩ := boxed w #[.int .i64 0, .int .i64 0, .int .i64 0] 58
  obtain ⟨q0, q1, q2, f0, f1, f2⟩ := cells3 t9
  exact ⟨w9, _, hw9, rfl, keep3 k9 w.heap.size (Nat.le_refl _) x0 x1 x2, heap3 w9 w.heap.size x0 x1 x2 t9, q0, q1, q2, f0, f1, f2⟩
/-- A list of rules as it lies: number, function, what it holds. -/
abbrev Rl := Int × Nat × Array Value
def rl0 : Rl := (0, 0, #[])
def RdR (w : World) (a : Option Addr) (R : List Rl) : Prop :=
  ∀ j, j < R.length → ∃ b o, a = some ⟨b, o, none⟩ ∧ w.cell? ⟨b, o + j * 2, none⟩ = some (.int .i64 (R.getD j rl0).1) ∧ w.cell? ⟨b, o + j * 2 + 1, none⟩ = some (.func (.func (R.getD j rl0).2.1) #[] (R.getD j rl0).2.2)
theorem RdR.keep {w w' : World} {a : Option Addr} {R : List Rl} (h : RdR w a R) (k : Keep w w') : RdR w' a R := by
  intro j hj
  obtain ⟨b, o, e, h1, h2⟩ := h j hj
  exact ⟨b, o, e, k.cell h1, k.cell h2⟩
theorem run_store_func {P : Program} {w : World} {a : Addr} {m : Mode} (f : Fn) (x y : Array Value) : (store a (.func f x y) m).run P w = stored P w a (.func f x y) m := run_store P w a _ m rfl
/-- The first that does not hold. -/
def fsF (R : List Rl) (bs : Nat → Bool) (t n : Int) : Nat → Nat → Bk
  | 0, _ => (0, 0, 0)
  | f + 1, k => if bs k = true then fsF R bs t n f (k + 1) else ((R.getD k rl0).1, t, n)
def fsB (R : List Rl) (bs : Nat → Bool) (t n : Int) : Bk := fsF R bs t n R.length 0
/-- A rule's function answers so, whatever has come to the world since. -/
def Ans (w : World) (r : Rl) (b : Bool) : Prop := (∀ wx, (callFunc r.2.1 r.2.2).run Tryz.prog wx = .ok (.enter r.2.1 r.2.2) wx) ∧ ∀ wx, Keep w wx → Calls Tryz.prog r.2.1 r.2.2 wx fun e w' => e = .returned (.bool b) ∧ Keep wx w'
theorem Ans.keep {w w' : World} {r : Rl} {b : Bool} (h : Ans w r b) (k : Keep w w') : Ans w' r b := ⟨h.1, fun wx kx => h.2 wx (k.trans kx)⟩
end Go.Proofs.YtinjikoocegooaaGreatDoor
set_option linter.unusedVariables false
set_option linter.unusedSimpArgs false
namespace Go.Proofs.YtinjikoocegooaaGreatDoor
open Go.RowKit Go.Shelf
attribute [local go_sem] run_store_func
set_option maxRecDepth 100000 in
set_option maxHeartbeats 1000000 in
theorem first_any (a : Option Addr) (c : Nat) (R : List Rl) (bs : Nat → Bool) (t n : Int) (w : World) (hR : RdR w a R) (hl : R.length ≤ 104)
    (hC : ∀ j, j < R.length → Ans w (R.getD j rl0) (bs j)) :
    Calls Tryz.prog 54 #[.slice a R.length c, .int .i64 t, .int .i64 n] w fun e w' => e = .returned (bkV (fsB R bs t n)) ∧ Keep w w' := by
  have HF : Hid (fsB R bs t n = fsF R bs t n R.length 0) := rfl
  generalize hB : fsB R bs t n = B at *
  clear hB
  obtain ⟨w1, hw1, k1, t1, s1⟩ := boxed w #[.int .i64 0, .int .i64 0, .int .i64 0] 58
  go_enter Tryz.func54, Tryz.ntmps54
  go_wp2_with (rw [hw1])
  go_loopw [11] (fun i wr => ∃ k : Nat, i = .int .i64 (k : Int) ∧ k ≤ R.length ∧ Hid (B = fsF R bs t n (R.length - k) k) ∧ Keep w1 wr) (fun i wr => R.length - (intOf i).toNat)
  case atStart => exact ⟨0, rfl, by omega, HF, Keep.refl _⟩
  case round =>
    obtain ⟨k, rfl, hk, H, kr⟩ := hrel
    by_cases hlt : k < R.length
    · have hltc : (k : Int) < (R.length : Int) := by omega
      obtain ⟨b, o, rfl, x0, x1⟩ := (hR.keep (k1.trans kr)) k hlt
      have hCk := hC k hlt
      have H1 : Hid (fsF R bs t n (R.length - k) k = if bs k = true then fsF R bs t n (R.length - (k + 1)) (k + 1) else ((R.getD k rl0).1, t, n)) := by
        rw [show R.length - k = (R.length - (k + 1)) + 1 by omega, fsF]; rfl
      have HK : Hid (k < R.length) := hlt
      clear hlt
      generalize R.getD k rl0 = rk at x0 x1 hCk H1
      obtain ⟨nm, fn, cp⟩ := rk
      simp only at x0 x1 H1
      obtain ⟨w4, hw4, k4, t4, s4⟩ := boxed wr #[.int .i64 nm, .func (.func fn) #[] cp] 101
      obtain ⟨d0, d1, g0, g1⟩ := cells2 t4
      have hCx := hCk.2 w4 ((k1.trans kr).trans k4)
      have hE := hCk.1 w4
      simp only at hE hCx
      clear hCk
      replace hE : Hid _ := hE
      cases hb : bs k with
      | true =>
        rw [hb] at hCx H1
        go_wp2_with fail
        rw [hE.out, Oper.upon_enter]
        refine hCx.mono ?_
        rintro e w5 ⟨rfl, k5⟩
        go_wp2_with fail
        go_roundw
        case rel => exact ⟨k + 1, by go_num, by have := HK.out; omega, by unfold Hid; rw [H.out, H1.out, if_pos trivial], (kr.trans k4).trans k5⟩
        case measure => have := HK.out; simp [intOf]; omega
      | false =>
        rw [hb] at hCx H1
        go_wp2_with fail
        rw [hE.out, Oper.upon_enter]
        refine hCx.mono ?_
        rintro e w5 ⟨rfl, k5⟩
        have k15 := (kr.trans k4).trans k5
        have t5 := k15.at t1
        obtain ⟨c0, c1, c2, f0, f1, f2⟩ := cells3 t5
        have t6 := k5.at t4
        obtain ⟨y0, y1, -, -⟩ := cells2 t6
        go_wp2_with fail
        have h := heap3 w5 w.heap.size (.int .i64 nm) (.int .i64 t) (.int .i64 n) t5
        have kk := keep3 (k1.trans k15) w.heap.size (Nat.le_refl _) (.int .i64 nm) (.int .i64 t) (.int .i64 n)
        refine bodyPost_ret (ret_bk rfl _ _ w.heap.size _ _ _ rfl h) rfl ⟨?_, kk⟩
        rw [H.out, H1.out, if_neg (by simp)]
    · have hltc : ¬ (k : Int) < (R.length : Int) := by omega
      have t5 := kr.at t1
      obtain ⟨c0, c1, c2, f0, f1, f2⟩ := cells3 t5
      have H1 : Hid (fsF R bs t n (R.length - k) k = (0, 0, 0)) := by rw [show R.length - k = 0 by omega]; rfl
      clear hlt
      go_wp2_with fail
      have h := heap3 wr w.heap.size (.int .i64 0) (.int .i64 0) (.int .i64 0) t5
      have kk := keep3 (k1.trans kr) w.heap.size (Nat.le_refl _) (.int .i64 0) (.int .i64 0) (.int .i64 0)
      refine bodyPost_ret (ret_bk rfl _ _ w.heap.size _ _ _ rfl h) rfl ⟨?_, kk⟩
      rw [H.out, H1.out]
end Go.Proofs.YtinjikoocegooaaGreatDoor
