import Derived.Test.YtcdcheecaphmgaaDoorM18
set_option linter.unusedVariables false
set_option linter.unusedSimpArgs false
namespace Go.Proofs.YtcdcheecaphmgaaDoor
open Go.RowKit Go.Shelf
def smpC (h : Nat) : Array Value := #[.int .u8 2, .int .i64 0, .int .i64 1, .float .f64 4602678819172646912, .slice none 0 0, .int .u8 2, .int .i64 2, .int .i64 1, .int .u8 1, .int .i64 30, .int .i64 0, .float .f64 0, .slice none 0 0, .int .u8 0, .int .i64 0, .int .i64 0, .int .u8 3, .int .i64 0, .int .i64 0, .float .f64 0, .slice (some ⟨h, 0, none⟩) 2 2, .int .u8 1, .int .i64 3, .int .i64 4, .int .u8 1, .int .i64 10, .int .i64 0, .float .f64 0, .slice none 0 0, .int .u8 0, .int .i64 0, .int .i64 0, .int .u8 1, .int .i64 20, .int .i64 0, .float .f64 0, .slice none 0 0, .int .u8 0, .int .i64 0, .int .i64 0]
theorem smp_world (w : World) : ∃ W, (((w.alloc (Obj.cells #[Value.int IntKind.i64 1, Value.int IntKind.i64 3] 3)).alloc (Obj.cells (smpC w.heap.size) 63)).alloc (Obj.cells #[Value.int IntKind.i64 0, Value.slice (some ⟨w.heap.size + 1, 0, none⟩) 5 5] 24)) = W ∧ Keep w W ∧ W.heap[w.heap.size + 1 + 1]? = some (Obj.cells #[Value.int IntKind.i64 0, Value.slice (some ⟨w.heap.size + 1, 0, none⟩) 5 5] 24 (0, 0)) ∧ RdN W (some ⟨w.heap.size + 1, 0, none⟩) smp := by
  obtain ⟨W, hW, kW, -, b1, b2, b0⟩ := boxes3g w #[Value.int IntKind.i64 1, Value.int IntKind.i64 3] (smpC w.heap.size) #[Value.int IntKind.i64 0, Value.slice (some ⟨w.heap.size + 1, 0, none⟩) 5 5] 3 63 24
  refine ⟨W, hW, kW, b0, ?_⟩
  have cell : ∀ j v, (smpC w.heap.size)[j]? = some v → W.cell? ⟨w.heap.size + 1, j, none⟩ = some v := fun j v h => by rw [cell_of_row _ _ j _ 63 (0, 0) b2]; exact h
  have none0 : ∀ a, RdI W a [] := RdI.nil W
  have two : RdI W (some ⟨w.heap.size, 0, none⟩) [1, 3] := by
    intro j hj
    refine ⟨_, _, rfl, ?_⟩
    rw [Nat.zero_add, cell_of_row _ _ j _ 3 (0, 0) b1]
    match j, hj with
    | 0, _ => rfl
    | 1, _ => rfl
  intro j hj
  have fits : ∀ n ∈ smp, n.Fit := by
    intro n hn
    simp only [smp, List.mem_cons, List.not_mem_nil, or_false] at hn
    rcases hn with rfl | rfl | rfl | rfl | rfl <;> constructor <;> simp
  match j, hj with
  | 0, _ => exact ⟨_, _, none, 0, rfl, cell 0 _ rfl, cell 1 _ rfl, cell 2 _ rfl, cell 3 _ rfl, cell 4 _ rfl, cell 5 _ rfl, cell 6 _ rfl, cell 7 _ rfl, none0 _, by decide, by decide, fits _ (by simp [smp])⟩
  | 1, _ => exact ⟨_, _, none, 0, rfl, cell 8 _ rfl, cell 9 _ rfl, cell 10 _ rfl, cell 11 _ rfl, cell 12 _ rfl, cell 13 _ rfl, cell 14 _ rfl, cell 15 _ rfl, none0 _, by decide, by decide, fits _ (by simp [smp])⟩
  | 2, _ => exact ⟨_, _, _, 2, rfl, cell 16 _ rfl, cell 17 _ rfl, cell 18 _ rfl, cell 19 _ rfl, cell 20 _ rfl, cell 21 _ rfl, cell 22 _ rfl, cell 23 _ rfl, two, by decide, by decide, fits _ (by simp [smp])⟩
  | 3, _ => exact ⟨_, _, none, 0, rfl, cell 24 _ rfl, cell 25 _ rfl, cell 26 _ rfl, cell 27 _ rfl, cell 28 _ rfl, cell 29 _ rfl, cell 30 _ rfl, cell 31 _ rfl, none0 _, by decide, by decide, fits _ (by simp [smp])⟩
  | 4, _ => exact ⟨_, _, none, 0, rfl, cell 32 _ rfl, cell 33 _ rfl, cell 34 _ rfl, cell 35 _ rfl, cell 36 _ rfl, cell 37 _ rfl, cell 38 _ rfl, cell 39 _ rfl, none0 _, by decide, by decide, fits _ (by simp [smp])⟩
theorem two_floats (W : World) (x y : Nat) : RdF (W.alloc (Obj.cells #[.float .f64 x, .float .f64 y] 60)) (some ⟨W.heap.size, 0, none⟩) [x, y] := by
  intro j hj
  refine ⟨_, _, rfl, ?_⟩
  rw [Nat.zero_add, cell_of_row _ _ j _ 60 (0, 0) (heap_alloc_new W _)]
  match j, hj with
  | 0, _ => rfl
  | 1, _ => rfl
theorem two_marks (W : World) : RdM (W.alloc (Obj.cells #[.int .i64 0, .int .i64 0, .int .i64 2, .int .i64 2, .int .i64 0, .int .i64 1] 52)) (some ⟨W.heap.size, 0, none⟩) [(0, 0, 2), (2, 0, 1)] := by
  intro j hj
  refine ⟨_, 0, rfl, ?_, ?_, ?_⟩
  all_goals
    rw [cell_of_row _ _ _ _ 52 (0, 0) (heap_alloc_new W _)]
    match j, hj with
    | 0, _ => rfl
    | 1, _ => rfl
set_option maxRecDepth 100000 in
set_option maxHeartbeats 1000000 in
theorem lives_any (w : World) (hTab : Bi.Tab w) : Calls Tryd.prog 14 #[] w fun e w' => e = .returned (.bool true) ∧ Keep w w' := by
  obtain ⟨W, hW, kW, b0, hrd⟩ := smp_world w
  unfold smpC at hW
  have e5 : smp.length = 5 := rfl
  have hM := Marks_any (some ⟨w.heap.size + 1, 0, none⟩) 5 0 smp (by decide) W hrd
  rw [e5] at hM
  have x0 := cell_of_row _ _ 0 _ 24 (0, 0) b0
  have x1 := cell_of_row _ _ 1 _ 24 (0, 0) b0
  simp only [List.getElem?_toArray, List.getElem?_cons_zero, List.getElem?_cons_succ] at x0 x1
  replace hW : Hid _ := hW
  go_enter Tryd.func14, Tryd.ntmps14
  go_wp2_with fail
  rw [hW.out]
  refine hM.mono ?_
  rintro e w2 ⟨v, l, rfl, hO, -, hl, k2⟩
  have hl := hl bsm smp_lvE smp_bt
  rw [smp_mks] at hl
  subst hl
  obtain ⟨a2, c2, rfl, -, hr2⟩ := hO.shape
  rw [smp_lvE]
  have k02 := kW.trans k2
  have y0 := k2.cell x0
  have y1 := k2.cell x1
  have ka : Keep w2 (w2.alloc (Obj.cells #[.float .f64 4611686018427387904, .float .f64 4603579539098121011] 60)) := (Keep.refl w2).alloc _
  have hX := Exit_any (some ⟨w.heap.size + 1, 0, none⟩) (some ⟨w2.heap.size, 0, none⟩) 5 2 0 smp [4611686018427387904, 4603579539098121011] (by decide) (by decide) (w2.alloc (Obj.cells #[.float .f64 4611686018427387904, .float .f64 4603579539098121011] 60)) (Bi.Tab.keep hTab (k02.trans ka)) (hrd.keep (k2.trans ka)) (two_floats w2 _ _)
  rw [e5] at hX
  simp only [List.length_cons, List.length_nil, Nat.zero_add, Nat.reduceAdd] at hX
  clear hM x0 x1 b0
  go_wp2_with fail
  refine hX.mono ?_
  rintro e w3 ⟨k, vv, rfl, -, hk, k3⟩
  obtain ⟨hk1, hk2⟩ := hk bsm smp_lvG smp_bt
  rw [smp_ext] at hk1 hk2
  have hk2 : vv = 30 := hk2
  subst hk1 hk2
  rw [smp_lvG]
  have k03 := k02.trans (ka.trans k3)
  have k23 := ka.trans k3
  have z0 := k23.cell y0
  have z1 := k23.cell y1
  have kb : Keep w3 (w3.alloc (Obj.cells #[.float .f64 4611686018427387904, .float .f64 0] 60)) := (Keep.refl w3).alloc _
  have hX2 := Reach_any (some ⟨w.heap.size + 1, 0, none⟩) (some ⟨w3.heap.size, 0, none⟩) 5 2 0 smp [4611686018427387904, 0] (by decide) (by decide) (w3.alloc (Obj.cells #[.float .f64 4611686018427387904, .float .f64 0] 60)) (hrd.keep ((k2.trans k23).trans kb)) (two_floats w3 _ _)
  rw [e5] at hX2
  simp only [List.length_cons, List.length_nil, Nat.zero_add, Nat.reduceAdd] at hX2
  clear hX y0 y1
  go_wp2_with fail
  refine hX2.mono ?_
  rintro e w4 ⟨v4, rfl, -, h4, k4⟩
  obtain ⟨l4, g4, rfl, -, hr4, hm4⟩ := h4 bsm smp_lvG smp_bt
  rw [smp_flm] at hm4
  have hl4 := Bi.mkl_eq hm4 smp_six
  subst hl4
  rw [smp_lvG]
  have c6 := hr4.cell 0 (by decide)
  have k04 := k03.trans (kb.trans k4)
  have kc : Keep w4 (w4.alloc (Obj.cells #[.int .i64 0, .int .i64 0, .int .i64 2, .int .i64 2, .int .i64 0, .int .i64 1] 52)) := (Keep.refl w4).alloc _
  have hS := SameM_eq a2 (some ⟨w4.heap.size, 0, none⟩) c2 2 [(0, 0, 2), (2, 0, 1)] (w4.alloc (Obj.cells #[.int .i64 0, .int .i64 0, .int .i64 2, .int .i64 2, .int .i64 0, .int .i64 1] 52)) (by decide) (hr2.keep ((k23.trans (kb.trans k4)).trans kc)) (two_marks w4)
  simp only [List.length_cons, List.length_nil, Nat.zero_add, Nat.reduceAdd] at hS ⊢
  clear hX2 z0 z1
  go_wp2_with fail
  refine hS.mono ?_
  rintro e w5 ⟨rfl, k5⟩
  have c6' := (kc.trans k5).cell c6
  go_wp2_with fail
  go_ret
  exact ⟨rfl, k04.trans (kc.trans k5)⟩
end Go.Proofs.YtcdcheecaphmgaaDoor
