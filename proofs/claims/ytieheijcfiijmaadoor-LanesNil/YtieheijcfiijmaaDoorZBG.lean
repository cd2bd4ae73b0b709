import Derived.Test.YtieheijcfiijmaaDoorProg
import Derived.Test.YtieheijcfiijmaaDoorZPK
import Derived.Test.YtieheijcfiijmaaDoorZX4
import Derived.Deep.RegionLaw
import Derived.Shelf.Abstract
import Derived.Below
import Derived.WalkKit
import Derived.WalkSpells
import Derived.WalkLawsBesides
import Derived.Deep.Draws
import Derived.Deep.QuietTactic
import Derived.BigQuiet
import Derived.Laws.Externs
import Derived.Laws.CopyOwn
import Derived.BigRegion
import Derived.Laws.BitsAll
import Derived.Deep.RegionHeld3
import Derived.Deep.Cut
set_option linter.unusedVariables false
set_option linter.unusedSimpArgs false
namespace Go.Proofs.YtieheijcfiijmaaDoor
open Go.RowKit Go.Shelf
attribute [local go_sem] run_store_float
/-- The numbers 1 to 8. -/
def N8 : Nat → Nat
  | 0 => 4607182418800017408
  | 1 => 4611686018427387904
  | 2 => 4613937818241073152
  | 3 => 4616189618054758400
  | 4 => 4617315517961601024
  | 5 => 4618441417868443648
  | 6 => 4619567317775286272
  | _ => 4620693217682128896
def V8 : List (List Nat) := [[4607182418800017408, 4611686018427387904], [4613937818241073152, 4616189618054758400]]
theorem n8_above : bt (fun i => gtB 4618441417868443648 (N8 i)) 8 = 192 := by decide +kernel
theorem n8_lost : bt (fun i => nanB (N8 i)) 8 = 0 := by decide +kernel
theorem n8_out : ouK N8 [1, 3] 2 = 250 := by decide +kernel
theorem v8_bad : badB 1 V8 2 = false := by decide +kernel
theorem v8_pk : pk V8 2 = [[4607182418800017408, 4613937818241073152, 4613937818241073152, 4613937818241073152, 4613937818241073152, 4613937818241073152, 4613937818241073152, 4613937818241073152, 4611686018427387904, 4616189618054758400, 4616189618054758400, 4616189618054758400, 4616189618054758400, 4616189618054758400, 4616189618054758400, 4616189618054758400]] := by decide +kernel
/-- The two vectors of the example, as they are laid. -/
abbrev w8 (w : World) : World := ((w.alloc (Obj.cells #[.float .f64 4607182418800017408, .float .f64 4611686018427387904] 57)).alloc (Obj.cells #[.float .f64 4613937818241073152, .float .f64 4616189618054758400] 57)).alloc (Obj.cells #[.slice (some ⟨w.heap.size, 0, none⟩) 2 2, .slice (some ⟨w.heap.size + 1, 0, none⟩) 2 2] 64)
theorem w8_keep (w : World) : Keep w (w8 w) := (((Keep.refl w).alloc _).alloc _).alloc _
theorem w8_rd (w : World) : RdS 1 (w8 w) (some ⟨w.heap.size + 2, 0, none⟩) V8 := by
  have r0 : (w8 w).heap[w.heap.size]? = some (Obj.cells #[.float .f64 4607182418800017408, .float .f64 4611686018427387904] 57 (0, 0)) :=
    (Below.heap_alloc _ _ _ (by simp; omega)).trans ((Below.heap_alloc _ _ _ (by simp)).trans (heap_alloc_new w _))
  have r1 : (w8 w).heap[w.heap.size + 1]? = some (Obj.cells #[.float .f64 4613937818241073152, .float .f64 4616189618054758400] 57 (0, 0)) := by
    have h := heap_alloc_new (w.alloc (Obj.cells #[.float .f64 4607182418800017408, .float .f64 4611686018427387904] 57)) (Obj.cells #[.float .f64 4613937818241073152, .float .f64 4616189618054758400] 57)
    rw [World.size_alloc] at h
    exact (Below.heap_alloc _ _ _ (by simp)).trans h
  have r2 : (w8 w).heap[w.heap.size + 2]? = some (Obj.cells #[.slice (some ⟨w.heap.size, 0, none⟩) 2 2, .slice (some ⟨w.heap.size + 1, 0, none⟩) 2 2] 64 (0, 0)) := by
    have h := heap_alloc_new ((w.alloc (Obj.cells #[.float .f64 4607182418800017408, .float .f64 4611686018427387904] 57)).alloc (Obj.cells #[.float .f64 4613937818241073152, .float .f64 4616189618054758400] 57)) (Obj.cells #[.slice (some ⟨w.heap.size, 0, none⟩) 2 2, .slice (some ⟨w.heap.size + 1, 0, none⟩) 2 2] 64)
    rw [World.size_alloc, World.size_alloc] at h
    exact h
  intro j hj
  have hj2 : j < 2 := hj
  have : j = 0 ∨ j = 1 := by omega
  rcases this with rfl | rfl
  · refine ⟨_, _, _, _, _, rfl, by rw [cell_of_row _ _ _ _ 64 (0, 0) r2]; rfl, rfl, Nat.le_refl _, ?_, by decide⟩
    intro q hq
    have hq2 : q < 2 := hq
    have : q = 0 ∨ q = 1 := by omega
    rcases this with rfl | rfl
    · exact ⟨_, _, rfl, by rw [cell_of_row _ _ _ _ 57 (0, 0) r0]; rfl⟩
    · exact ⟨_, _, rfl, by rw [cell_of_row _ _ _ _ 57 (0, 0) r0]; rfl⟩
  · refine ⟨_, _, _, _, _, rfl, by rw [cell_of_row _ _ _ _ 64 (0, 0) r2]; rfl, rfl, Nat.le_refl _, ?_, by decide⟩
    intro q hq
    have hq2 : q < 2 := hq
    have : q = 0 ∨ q = 1 := by omega
    rcases this with rfl | rfl
    · exact ⟨_, _, rfl, by rw [cell_of_row _ _ _ _ 57 (0, 0) r1]; rfl⟩
    · exact ⟨_, _, rfl, by rw [cell_of_row _ _ _ _ 57 (0, 0) r1]; rfl⟩
theorem eq8 (W : World) : Sem.run Tryd.prog (Op.equalIn 10000 59
                (Value.agg
                  #[Value.float FloatKind.f64 4607182418800017408, Value.float FloatKind.f64 4613937818241073152,
                    Value.float FloatKind.f64 4613937818241073152, Value.float FloatKind.f64 4613937818241073152,
                    Value.float FloatKind.f64 4613937818241073152, Value.float FloatKind.f64 4613937818241073152,
                    Value.float FloatKind.f64 4613937818241073152, Value.float FloatKind.f64 4613937818241073152])
                (Value.agg
                  #[Value.float FloatKind.f64 4607182418800017408, Value.float FloatKind.f64 4613937818241073152,
                    Value.float FloatKind.f64 4613937818241073152, Value.float FloatKind.f64 4613937818241073152,
                    Value.float FloatKind.f64 4613937818241073152, Value.float FloatKind.f64 4613937818241073152,
                    Value.float FloatKind.f64 4613937818241073152, Value.float FloatKind.f64 4613937818241073152])) W = .ok true W := by kernel_rfl
theorem cells8 {w1 wx : World} (k : Keep (w1.alloc (Obj.cells #[.float .f64 4607182418800017408, .float .f64 4611686018427387904, .float .f64 4613937818241073152, .float .f64 4616189618054758400, .float .f64 4617315517961601024, .float .f64 4618441417868443648, .float .f64 4619567317775286272, .float .f64 4620693217682128896] 59)) wx) : wx.cell? ⟨w1.heap.size, 0, none⟩ = some (.float .f64 4607182418800017408) ∧ wx.cell? ⟨w1.heap.size, 1, none⟩ = some (.float .f64 4611686018427387904) ∧ wx.cell? ⟨w1.heap.size, 2, none⟩ = some (.float .f64 4613937818241073152) ∧ wx.cell? ⟨w1.heap.size, 3, none⟩ = some (.float .f64 4616189618054758400) ∧ wx.cell? ⟨w1.heap.size, 4, none⟩ = some (.float .f64 4617315517961601024) ∧ wx.cell? ⟨w1.heap.size, 5, none⟩ = some (.float .f64 4618441417868443648) ∧ wx.cell? ⟨w1.heap.size, 6, none⟩ = some (.float .f64 4619567317775286272) ∧ wx.cell? ⟨w1.heap.size, 7, none⟩ = some (.float .f64 4620693217682128896) := by
  have h := fun i hi => k.cell (laneCell N8 w1 i hi)
  exact ⟨h 0 (by omega), h 1 (by omega), h 2 (by omega), h 3 (by omega), h 4 (by omega), h 5 (by omega), h 6 (by omega), h 7 (by omega)⟩
theorem rdi13 (W : World) : RdI (W.alloc (Obj.cells #[.int .i64 1, .int .i64 3] 3)) (some ⟨W.heap.size, 0, none⟩) [1, 3] := by
  intro j hj
  have hj2 : j < 2 := hj
  refine ⟨W.heap.size, 0, rfl, ?_⟩
  rw [cell_of_row _ _ _ _ 3 (0, 0) (heap_alloc_new W _)]
  have : j = 0 ∨ j = 1 := by omega
  rcases this with rfl | rfl <;> rfl
set_option maxRecDepth 100000 in
set_option maxHeartbeats 4000000 in
theorem begins_any (w : World) : Calls Tryd.prog 7 #[] w fun e w' => e = .returned (.bool true) ∧ Keep w w' := by
  have h8 := Pack_ok (some ⟨w.heap.size + 2, 0, none⟩) 2 V8 2 (w8 w) (by omega) (by decide) (by decide) (w8_rd w) v8_bad
  rw [v8_pk] at h8
  have kw := w8_keep w
  have h14 := fun (wx : World) => Above_any N8 4618441417868443648 wx
  have h18 := fun (wx : World) => Lost_any N8 wx
  simp only [n8_above, n8_lost] at h14 h18
  have h16 := fun (wx : World) (a : Option Addr) (h : RdI wx a [1, 3]) => Outside_any N8 a 2 [1, 3] wx (by decide) h
  simp only [List.length_cons, List.length_nil, Nat.zero_add, Nat.reduceAdd, n8_out] at h16
  go_enter Tryd.func7, Tryd.ntmps7
  go_upto_region 2 with (go_at_call 15; refine h8.mono ?_; rintro e w1 ⟨a1, c1, rfl, hc1, r1, k1⟩)
  obtain ⟨b1, o1, va, n, vc, rfl, g1, hn, -, hrf, -⟩ := r1 0 (by decide)
  obtain rfl : n = 2 := by have : n * 8 = 16 := hn; omega
  obtain ⟨b3, o3, rfl, x0⟩ := hrf 0 (by decide)
  have hx : ∀ i, i < 8 → w1.cell? ⟨b3, o3 + i, none⟩ = some (.float .f64 (if i = 0 then 4607182418800017408 else 4613937818241073152)) := by
    intro i hi
    obtain ⟨b4, o4, e, hc⟩ := hrf i (by show i < 16; omega)
    simp only [Option.some.injEq, Addr.mk.injEq, and_true] at e
    obtain ⟨rfl, rfl⟩ := e
    rw [hc]
    have : i = 0 ∨ i = 1 ∨ i = 2 ∨ i = 3 ∨ i = 4 ∨ i = 5 ∨ i = 6 ∨ i = 7 := by omega
    rcases this with rfl | rfl | rfl | rfl | rfl | rfl | rfl | rfl <;> rfl
  clear x0
  have x0 := hx 0 (by omega)
  have x1 := hx 1 (by omega)
  have x2 := hx 2 (by omega)
  have x3 := hx 3 (by omega)
  have x4 := hx 4 (by omega)
  have x5 := hx 5 (by omega)
  have x6 := hx 6 (by omega)
  have x7 := hx 7 (by omega)
  simp only [Nat.add_zero, if_true, if_neg (show ¬ (1 : Nat) = 0 by decide), if_neg (show ¬ (2 : Nat) = 0 by decide), if_neg (show ¬ (3 : Nat) = 0 by decide), if_neg (show ¬ (4 : Nat) = 0 by decide), if_neg (show ¬ (5 : Nat) = 0 by decide), if_neg (show ¬ (6 : Nat) = 0 by decide), if_neg (show ¬ (7 : Nat) = 0 by decide), Nat.zero_add] at x0 x1 x2 x3 x4 x5 x6 x7 g1
  have k01 := kw.trans k1
  have z3 : b3 < w1.heap.size := World.block_lt_of_cell? _ _ x0
  have z1 : b1 < w1.heap.size := World.block_lt_of_cell? _ _ g1
  clear hx hrf hn r1 hc1 h8 k1 kw
  have heq := eq8
  go_wp2_with (first
    | (go_at_call 16; refine (h14 _).mono ?_; rintro e w2 ⟨rfl, k2⟩; obtain ⟨y0, y1, y2, y3, y4, y5, y6, y7⟩ := cells8 k2)
    | (go_at_call 17; refine (h16 _ _ (rdi13 _)).mono ?_; rintro e w3 ⟨rfl, k3⟩; have k23 := k2.trans (((Keep.refl w2).alloc _).trans k3); obtain ⟨t0, t1, t2, t3, t4, t5, t6, t7⟩ := cells8 k23)
    | (go_at_call 18; refine (h18 _).mono ?_; rintro e w4 ⟨rfl, k4⟩))
  go_ret
  exact ⟨rfl, k01.trans (((Keep.refl w1).alloc _).trans (k23.trans k4))⟩
end Go.Proofs.YtieheijcfiijmaaDoor
