import Derived.Test.YtbchinfmdioijaaY2
import Derived.Deep.RegionHeld3
set_option linter.unusedVariables false
set_option linter.unusedSimpArgs false
namespace Go.Proofs.Ytbchinfmdioijaa
open Go.RowKit Go.Shelf
theorem rdF_new (w : World) (x y : Nat) : RdF (w.alloc (Obj.cells #[Value.float FloatKind.f64 x, Value.float FloatKind.f64 y] 37)) (some ⟨w.heap.size, 0, none⟩) [x, y] := by
  intro j hj
  refine ⟨_, _, rfl, ?_⟩
  rw [Nat.zero_add, cell_of_row _ _ j _ 37 (0, 0) (heap_alloc_new w _)]
  match j, hj with
  | 0, _ => rfl
  | 1, _ => rfl
section
variable {w : World} {c1 c2 c3 c4 : Array Value} {t1 t2 t3 t4 j : Nat} {v : Value}
theorem a40 (h : c1[j]? = some v) : ((((w.alloc (Obj.cells c1 t1)).alloc (Obj.cells c2 t2)).alloc (Obj.cells c3 t3)).alloc (Obj.cells c4 t4)).drew.cell? ⟨w.heap.size, j, none⟩ = some v := by
  show ((((w.alloc (Obj.cells c1 t1)).alloc (Obj.cells c2 t2)).alloc (Obj.cells c3 t3)).alloc (Obj.cells c4 t4)).cell? _ = _
  rw [cell_of_row _ _ j _ t1 (0, 0) ((Below.heap_alloc _ _ _ (by simp; omega)).trans ((Below.heap_alloc _ _ _ (by simp; omega)).trans ((Below.heap_alloc _ _ _ (by simp)).trans (heap_alloc_new w _))))]
  exact h
theorem a41 (h : c2[j]? = some v) : ((((w.alloc (Obj.cells c1 t1)).alloc (Obj.cells c2 t2)).alloc (Obj.cells c3 t3)).alloc (Obj.cells c4 t4)).drew.cell? ⟨w.heap.size + 1, j, none⟩ = some v := by
  have := heap_alloc_new (w.alloc (Obj.cells c1 t1)) (Obj.cells c2 t2)
  rw [World.size_alloc] at this
  show ((((w.alloc (Obj.cells c1 t1)).alloc (Obj.cells c2 t2)).alloc (Obj.cells c3 t3)).alloc (Obj.cells c4 t4)).cell? _ = _
  rw [cell_of_row _ _ j _ t2 (0, 0) ((Below.heap_alloc _ _ _ (by simp)).trans ((Below.heap_alloc _ _ _ (by simp)).trans this))]
  exact h
theorem a42 (h : c3[j]? = some v) : ((((w.alloc (Obj.cells c1 t1)).alloc (Obj.cells c2 t2)).alloc (Obj.cells c3 t3)).alloc (Obj.cells c4 t4)).drew.cell? ⟨w.heap.size + 1 + 1, j, none⟩ = some v := by
  have := heap_alloc_new ((w.alloc (Obj.cells c1 t1)).alloc (Obj.cells c2 t2)) (Obj.cells c3 t3)
  rw [World.size_alloc, World.size_alloc] at this
  show ((((w.alloc (Obj.cells c1 t1)).alloc (Obj.cells c2 t2)).alloc (Obj.cells c3 t3)).alloc (Obj.cells c4 t4)).cell? _ = _
  rw [cell_of_row _ _ j _ t3 (0, 0) ((Below.heap_alloc _ _ _ (by simp)).trans this)]
  exact h
theorem a43 (h : c4[j]? = some v) : ((((w.alloc (Obj.cells c1 t1)).alloc (Obj.cells c2 t2)).alloc (Obj.cells c3 t3)).alloc (Obj.cells c4 t4)).drew.cell? ⟨w.heap.size + 1 + 1 + 1, j, none⟩ = some v := by
  have := heap_alloc_new (((w.alloc (Obj.cells c1 t1)).alloc (Obj.cells c2 t2)).alloc (Obj.cells c3 t3)) (Obj.cells c4 t4)
  rw [World.size_alloc, World.size_alloc, World.size_alloc] at this
  show ((((w.alloc (Obj.cells c1 t1)).alloc (Obj.cells c2 t2)).alloc (Obj.cells c3 t3)).alloc (Obj.cells c4 t4)).cell? _ = _
  rw [cell_of_row _ _ j _ t4 (0, 0) this]
  exact h
end
theorem score_smp (w1 : World) (a : Option Addr) (hrd : RdN w1 a smpL) (fa : Option Addr) (b1 b2 b3 : Nat) (wx : World) (k : Keep w1 wx) (h1 : wx.cell? ⟨b1, 0, none⟩ = some (.int .i64 7)) (h2 : wx.cell? ⟨b2, 0, none⟩ = some (.int .i64 0)) (h3 : wx.cell? ⟨b2, 1, none⟩ = some (.slice a 5 5)) (h4 : wx.cell? ⟨b3, 0, none⟩ = some (.float .f64 0)) (h5 : wx.cell? ⟨b3, 1, none⟩ = some (.float .f64 9221120237041090561)) :
    Calls Try.prog 29 #[.agg #[.string ⟨#[]⟩, .slice fa 2 2, .int .i64 1, .slice (some ⟨b1, 0, none⟩) 1 1, .slice (some ⟨b2, 0, none⟩) 1 1], .slice (some ⟨b3, 0, none⟩) 2 2] wx fun e w' => ∃ v, e = .returned (.tuple #[v, .int .i64 0]) ∧ OwnZ 2 wx.heap.size w' v [37] ∧ Keep wx w' := by
  have h := Score_any ⟨#[]⟩ fa 2 2 1 (some ⟨b1, 0, none⟩) [7] 1 (some ⟨b2, 0, none⟩) [(0, smpL)] 1 (some ⟨b3, 0, none⟩) [0, 9221120237041090561] 2 wx ?_ (by decide) (by decide) ?_ (by decide) ?_ (by decide) (by decide)
  · rw [smp_sc] at h
    exact h
  · intro j hj
    match j, hj with
    | 0, _ => exact ⟨_, _, rfl, h1⟩
  · intro j hj
    match j, hj with
    | 0, _ => exact ⟨_, _, a, 5, rfl, h2, h3, hrd.keep k, by decide, by decide, by decide⟩
  · intro j hj
    match j, hj with
    | 0, _ => exact ⟨_, _, rfl, h4⟩
    | 1, _ => exact ⟨_, _, rfl, h5⟩
set_option maxRecDepth 100000 in
set_option maxHeartbeats 8000000 in
theorem lives_any (w : World) : Calls Try.prog 14 #[] w fun e w' => e = .returned (.bool true) ∧ Keep w w' := by
  have hS := sample_any
  go_enter Try.func14, Try.ntmps14
  go_wp2_with (go_at_call 46; refine (hS _).mono ?_; rintro e w1 ⟨a, rfl, hrd, k1⟩)
  clear hS
  have kA : Keep w1 (w1.alloc (Obj.cells #[Value.int IntKind.i64 0, Value.slice a 5 5] 24)) := (Keep.refl w1).alloc _
  have bt0 : (w1.alloc (Obj.cells #[Value.int IntKind.i64 0, Value.slice a 5 5] 24)).cell? ⟨w1.heap.size, 0, none⟩ = some (.int .i64 0) := by rw [cell_of_row _ _ 0 _ 24 (0, 0) (heap_alloc_new w1 _)]; rfl
  have bt1 : (w1.alloc (Obj.cells #[Value.int IntKind.i64 0, Value.slice a 5 5] 24)).cell? ⟨w1.heap.size, 1, none⟩ = some (.slice a 5 5) := by rw [cell_of_row _ _ 1 _ 24 (0, 0) (heap_alloc_new w1 _)]; rfl
  have hL := fun wx (k : Keep w1 wx) => Leaves_any a 5 0 smpL (by decide) wx (hrd.keep k)
  have e5 : smpL.length = 5 := rfl
  rw [e5, smp_lvs, smp_shE] at hL
  generalize w1.alloc _ = w2 at kA bt0 bt1 ⊢
  generalize w1.heap.size = s at bt0 bt1 ⊢
  have hL2 := hL _ kA
  refine hL2.mono ?_
  rintro e w3 ⟨v3, rfl, o3, b3, k3⟩
  obtain ⟨a3, c3, rfl, hc3, r3⟩ := o3.rdI
  have bt0 := k3.cell bt0
  have bt1 := k3.cell bt1
  have k13 := kA.trans k3
  simp only [List.map_cons, List.map_nil, List.length_cons, List.length_nil, Nat.reduceAdd] at r3 ⊢
  clear hL hL2 o3 b3 k3 kA hc3
  have hF := fun (ax : Option Addr) (wx : World) (k : Keep w1 wx) (hx : RdF wx ax [4611686018427387904, 4602678819172646912]) => Leaf_any a ax 5 2 0 smpL [4611686018427387904, 4602678819172646912] (by decide) (by decide) wx (hrd.keep k) hx
  have e2 : ([4611686018427387904, 4602678819172646912] : List Nat).length = 2 := rfl
  simp only [e5, e2, smp_lf.1, smp_lf.2.1, smp_lf.2.2] at hF
  go_wp2_with fail
  have kB : Keep w3 (w3.alloc (Obj.cells #[Value.float FloatKind.f64 4611686018427387904, Value.float FloatKind.f64 4602678819172646912] 37)) := (Keep.refl w3).alloc _
  refine (hF _ _ (k13.trans kB) (rdF_new w3 _ _)).mono ?_
  rintro e w4 ⟨rfl, k4⟩
  have k34 := kB.trans k4
  have bt0 := k34.cell bt0
  have bt1 := k34.cell bt1
  have r3 := r3.keep k34
  have k14 := k13.trans k34
  clear hF kB k4 k34 k13
  have hN := NaN_any
  go_wp2_with fail
  have hSc := score_smp w1 a hrd
  refine Code.wp_mono (Q := fun e a' w' => e = .normal ∧ ∃ v u9 u10 u11 u12 u13 u14 u15 u16 u17 u18 u19 u20 u21 u22 u23 u24 u25 u26 u27 u28 u29 u30 u31 u32, a' = { tmps := #[Value.bool false, Value.pointer (some ⟨s, 0, none⟩), Value.slice a3 3 c3, Value.int IntKind.i64 0, Value.int IntKind.i64 1, Value.int IntKind.i64 20, Value.int IntKind.i64 0, v, Value.int IntKind.i64 0, u9, u10, u11, u12, u13, u14, u15, u16, u17, u18, u19, u20, u21, u22, u23, u24, u25, u26, u27, u28, u29, u30, u31, u32, undef, undef, undef, undef, undef, undef, undef, undef, undef, undef, undef, undef, undef, undef, undef, undef, undef, undef, undef, undef, undef, undef, undef, undef, undef, undef, undef, undef, undef, undef, undef, undef, undef, undef, undef, undef, undef, undef, undef, undef, undef, undef], defers := [] } ∧ OwnZ 2 w4.heap.size w' v [37] ∧ Keep w4 w') ?_ ?_
  rotate_left
  · clear r3 hrd
    go_region_held3 (fun w' => w'.cell? ⟨s, 0, none⟩ = some (Value.int .i64 0) ∧ w'.cell? ⟨s, 1, none⟩ = some (Value.slice a 5 5)) (refine ⟨Keep.cell (a := w4) ?_ bt0, Keep.cell (a := w4) ?_ bt1⟩ <;> repeat (first | exact Keep.refl _ | refine Keep.trans ?_ kS | refine Keep.drew ?_ | refine Keep.alloc ?_ _)) (first
      | (go_at_call 47; refine (hN _).mono ?_; rintro e wA ⟨rfl, hwA⟩; have hwB := hwA.symm; subst hwB)
      | (go_at_call 29; refine (hSc _ _ _ _ _ ?_ ?_ ?_ ?_ ?_ ?_).mono ?_; (repeat (first | exact k14 | refine Keep.drew ?_ | refine Keep.alloc ?_ _)); (first | exact a40 rfl | exact a41 rfl | exact a42 rfl | exact a43 rfl); (first | exact a40 rfl | exact a41 rfl | exact a42 rfl | exact a43 rfl); (first | exact a40 rfl | exact a41 rfl | exact a42 rfl | exact a43 rfl); (first | exact a40 rfl | exact a41 rfl | exact a42 rfl | exact a43 rfl); (first | exact a40 rfl | exact a41 rfl | exact a42 rfl | exact a43 rfl); rintro e wS ⟨v, rfl, hv, kS⟩))
    all_goals exact ⟨rfl, _, _, _, _, _, _, _, _, _, _, _, _, _, _, _, _, _, _, _, _, _, _, _, _, _, rfl, hv.mono (Keep.le (a := w4) (by repeat (first | exact Keep.refl _ | refine Keep.drew ?_ | refine Keep.alloc ?_ _))), Keep.trans (by repeat (first | exact Keep.refl _ | refine Keep.drew ?_ | refine Keep.alloc ?_ _)) kS⟩
  · rintro e a' w5 ⟨rfl, v, u9, u10, u11, u12, u13, u14, u15, u16, u17, u18, u19, u20, u21, u22, u23, u24, u25, u26, u27, u28, u29, u30, u31, u32, rfl, hv, k5⟩
    obtain ⟨av, cv, rfl, hcv, hrv⟩ := hv.shape
    have hv0 := hrv 0 (by simp)
    obtain ⟨bv, ov, rfl, cv0⟩ := hv0
    have bt0 := k5.cell bt0
    have bt1 := k5.cell bt1
    have r3 := r3.keep k5
    have k15 := k14.trans k5
    have hnd := (hrd.keep k15) 0 (by decide)
    obtain ⟨b, o, ca, cp, rfl, hn⟩ := hnd
    have hG := fun (wx : World) (k : Keep w5 wx) => Goes_any (smpL.getD 0 nd0) ca cp 4602678819172646912 wx (hn.rd.keep k) hn.sz hn.cp
    rw [smp_gs] at hG
    have hI := fun (wx : World) (k : Keep w5 wx) (b : Option Addr) (cb : Nat) (hb : RdI wx b [3, 4, 1]) => rInts_any a3 b c3 cb [3, 4, 1] [3, 4, 1] wx (by decide) (r3.keep k) hb
    clear hSc hN hrv hv r3
    have e0 : smpL.getD 0 nd0 = ⟨2, 0, 1, 4602678819172646912, [], 2, 2, 1⟩ := rfl
    rw [e0] at hn hG
    have hI' := hI _ ((Keep.refl w5).alloc (Obj.cells #[Value.int IntKind.i64 3, Value.int IntKind.i64 4, Value.int IntKind.i64 1] 3)) (some ⟨w5.heap.size, 0, none⟩) 3 (by
      intro j hj
      refine ⟨_, _, rfl, ?_⟩
      rw [Nat.zero_add, cell_of_row _ _ j _ 3 (0, 0) (heap_alloc_new w5 _)]
      match j, hj with
      | 0, _ => rfl
      | 1, _ => rfl
      | 2, _ => rfl)
    simp only [List.length_cons, List.length_nil, Nat.reduceAdd, decide_true] at hI'
    go_wp2_with fail
    refine hI'.mono ?_
    rintro e w6 ⟨rfl, k6⟩
    have k56 := ((Keep.refl w5).alloc (Obj.cells #[Value.int IntKind.i64 3, Value.int IntKind.i64 4, Value.int IntKind.i64 1] 3)).trans k6
    have bt1 := k56.cell bt1
    have cv0 : w6.cell? ⟨bv, ov, none⟩ = some (.int .i64 37) := k56.cell cv0
    have hn := hn.keep k56
    have c0 := hn.c0
    have c1 := hn.c1
    have c2 := hn.c2
    have c3' := hn.c3
    have c4 := hn.c4
    have c5 := hn.c5
    have c6 := hn.c6
    have c7 := hn.c7
    simp only [Nat.zero_mul, Nat.add_zero] at c0 c1 c2 c3' c4 c5 c6 c7
    have hG' := hG _ k56
    unfold Nd.v at hG'
    simp only [List.length_nil] at hG' c4
    have kf := k1.trans (k15.trans k56)
    clear hI hI' hG hn e0
    go_wp2_with (go_at_call 22; refine hG'.mono ?_; rintro e w7 ⟨rfl, k7⟩)
    go_ret
    exact ⟨rfl, kf.trans k7⟩
end Go.Proofs.Ytbchinfmdioijaa
