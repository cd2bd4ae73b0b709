import Derived.Test.YtbchinfmdioijaaY2
import Derived.Test.YtbchinfmdioijaaRJ
import Derived.Deep.RegionHeld3
set_option linter.unusedVariables false
set_option linter.unusedSimpArgs false
namespace Go.Proofs.Ytbchinfmdioijaa
open Go.RowKit Go.Shelf
theorem rdF_new (w : World) (x y : Nat) : RdF (w.alloc (Obj.cells #[Value.float FloatKind.f64 x, Value.float FloatKind.f64 y] 37)) (some ⟨w.heap.size, 0, none⟩) [x, y] := by
  intro j hj
  refine ⟨_, _, rfl, ?_⟩
  rw [Nat.zero_add, cell_of_row _ _ j _ 37 (0, 0) (heap_alloc_new w _)]
  match j, hj with
  | 0, _ => rfl
  | 1, _ => rfl
theorem score_smp (w1 : World) (a : Option Addr) (hrd : RdN w1 a smpL) (fa : Option Addr) (b1 b2 b3 : Nat) (wx : World) (k : Keep w1 wx) (h1 : wx.cell? ⟨b1, 0, none⟩ = some (.int .i64 7)) (h2 : wx.cell? ⟨b2, 0, none⟩ = some (.int .i64 0)) (h3 : wx.cell? ⟨b2, 1, none⟩ = some (.slice a 5 5)) (h4 : wx.cell? ⟨b3, 0, none⟩ = some (.float .f64 0)) (h5 : wx.cell? ⟨b3, 1, none⟩ = some (.float .f64 9221120237041090561)) :
    Calls Try.prog 29 #[.agg #[.string ⟨#[]⟩, .slice fa 2 2, .int .i64 1, .slice (some ⟨b1, 0, none⟩) 1 1, .slice (some ⟨b2, 0, none⟩) 1 1], .slice (some ⟨b3, 0, none⟩) 2 2] wx fun e w' => ∃ v, e = .returned (.tuple #[v, .int .i64 0]) ∧ OwnZ 2 wx.heap.size w' v [37] ∧ Keep wx w' := by
  have h := Score_any ⟨#[]⟩ fa 2 2 1 (some ⟨b1, 0, none⟩) [7] 1 (some ⟨b2, 0, none⟩) [(0, smpL)] 1 (some ⟨b3, 0, none⟩) [0, 9221120237041090561] 2 wx ?_ (by decide) (by decide) ?_ (by decide) ?_ (by decide) (by decide)
  · rw [smp_sc] at h
    exact h
  · intro j hj
    match j, hj with
    | 0, _ => exact ⟨_, _, rfl, h1⟩
  · intro j hj
    match j, hj with
    | 0, _ => exact ⟨_, _, a, 5, rfl, h2, h3, hrd.keep k, by decide, by decide, by decide⟩
  · intro j hj
    match j, hj with
    | 0, _ => exact ⟨_, _, rfl, h4⟩
    | 1, _ => exact ⟨_, _, rfl, h5⟩
/-- What each of the region's operations has left. -/
def lvF (a : Option Addr) (w4 : World) (x : Nat → Value) (w : World) : Nat → Prop
  | 0 => ∃ b, x 0 = .slice (some ⟨b, 0, none⟩) 2 2
  | 1 => ∃ b, x 1 = .slice (some ⟨b, 0, none⟩) 1 1 ∧ w.cell? ⟨b, 0, none⟩ = some (.int .i64 7)
  | 2 => x 2 = .agg #[.int .i64 0, .slice a 5 5]
  | 3 => ∃ b, x 3 = .slice (some ⟨b, 0, none⟩) 1 1 ∧ w.cell? ⟨b, 0, none⟩ = some (.int .i64 0) ∧ w.cell? ⟨b, 1, none⟩ = some (.slice a 5 5)
  | 4 => ∃ b0 b1 b3, x 4 = .agg #[.string ⟨#[]⟩, .slice (some ⟨b0, 0, none⟩) 2 2, .int .i64 1, .slice (some ⟨b1, 0, none⟩) 1 1, .slice (some ⟨b3, 0, none⟩) 1 1] ∧ w.cell? ⟨b1, 0, none⟩ = some (.int .i64 7) ∧ w.cell? ⟨b3, 0, none⟩ = some (.int .i64 0) ∧ w.cell? ⟨b3, 1, none⟩ = some (.slice a 5 5)
  | 5 => x 5 = .float .f64 9221120237041090561
  | 6 => ∃ b, x 6 = .slice (some ⟨b, 0, none⟩) 2 2 ∧ w.cell? ⟨b, 0, none⟩ = some (.float .f64 0) ∧ w.cell? ⟨b, 1, none⟩ = some (.float .f64 9221120237041090561)
  | 7 => ∃ v, x 7 = .tuple #[v, .int .i64 0] ∧ OwnZ 2 w4.heap.size w v [37]
  | 8 => ∃ v, x 8 = .tuple #[v, .int .i64 0] ∧ OwnZ 2 w4.heap.size w v [37]
  | 9 => OwnZ 2 w4.heap.size w (x 9) [37]
  | 10 => x 10 = .int .i64 0
  | 11 => OwnZ 2 w4.heap.size w (x 11) [37]
  | 12 => x 12 = .int .i64 0
  | _ => True
theorem lvF.keep {a : Option Addr} {w4 : World} {x x' : Nat → Value} {w w' : World} {j : Nat} (k : Keep w w') (hx : x' j = x j) (h : lvF a w4 x w j) : lvF a w4 x' w' j := by
  match j, hx, h with
  | 0, hx, h => obtain ⟨b, e⟩ := h; exact ⟨b, hx.trans e⟩
  | 1, hx, h => obtain ⟨b, e, c⟩ := h; exact ⟨b, hx.trans e, k.cell c⟩
  | 2, hx, h => exact Eq.trans hx h
  | 3, hx, h => obtain ⟨b, e, c, d⟩ := h; exact ⟨b, hx.trans e, k.cell c, k.cell d⟩
  | 4, hx, h => obtain ⟨b0, b1, b3, e, c, d, f⟩ := h; exact ⟨b0, b1, b3, hx.trans e, k.cell c, k.cell d, k.cell f⟩
  | 5, hx, h => exact Eq.trans hx h
  | 6, hx, h => obtain ⟨b, e, c, d⟩ := h; exact ⟨b, hx.trans e, k.cell c, k.cell d⟩
  | 7, hx, h => obtain ⟨v, e, c⟩ := h; exact ⟨v, hx.trans e, c.keep k⟩
  | 8, hx, h => obtain ⟨v, e, c⟩ := h; exact ⟨v, hx.trans e, c.keep k⟩
  | 9, hx, h => exact (show OwnZ 2 w4.heap.size w' (x' 9) [37] by rw [hx]; exact OwnZ.keep h k)
  | 10, hx, h => exact Eq.trans hx h
  | 11, hx, h => exact (show OwnZ 2 w4.heap.size w' (x' 11) [37] by rw [hx]; exact OwnZ.keep h k)
  | 12, hx, h => exact Eq.trans hx h
  | n + 13, hx, h => trivial
/-- The frame while the region runs. -/
def lvA (s : Nat) (FR : (Nat → Value) → Act) (x : Nat → Value) : Act := FR x
def lvI (a : Option Addr) (w4 : World) (FR : (Nat → Value) → Act) (l : Array Bool) (A : Act) (w : World) : Prop :=
  l.size = 13 ∧ ∃ x : Nat → Value, A = FR x ∧ Keep w4 w ∧ ∀ j, l.getD j false = true → lvF a w4 x w j
def upd (x : Nat → Value) (i : Nat) (v : Value) : Nat → Value := fun j => if j = i then v else x j
theorem lvI.next {a : Option Addr} {w4 : World} {FR : (Nat → Value) → Act} {l : Array Bool} {x : Nat → Value} {A' : Act} {w w' : World} {i : Nat} {v : Value} (hs : l.size = 13) (k0 : Keep w4 w) (h : ∀ j, l.getD j false = true → lvF a w4 x w j) (k : Keep w w') (hA : A' = FR (upd x i v)) (hf : lvF a w4 (upd x i v) w' i) : lvI a w4 FR (l.setIfInBounds i true) A' w' := by
  refine ⟨by simpa using hs, upd x i v, hA, k0.trans k, ?_⟩
  intro j hj
  rcases listed_set hj with rfl | hj
  · exact hf
  · by_cases e : j = i
    · subst e; exact hf
    · exact (h j hj).keep k (by simp [upd, e])
set_option maxRecDepth 100000 in
set_option maxHeartbeats 8000000 in
theorem lives_any (w : World) : Calls Try.prog 14 #[] w fun e w' => e = .returned (.bool true) ∧ Keep w w' := by
  have hS := sample_any
  go_enter Try.func14, Try.ntmps14
  go_wp2_with (go_at_call 46; refine (hS _).mono ?_; rintro e w1 ⟨a, rfl, hrd, k1⟩)
  clear hS
  have kA : Keep w1 (w1.alloc (Obj.cells #[Value.int IntKind.i64 0, Value.slice a 5 5] 24)) := (Keep.refl w1).alloc _
  have bt0 : (w1.alloc (Obj.cells #[Value.int IntKind.i64 0, Value.slice a 5 5] 24)).cell? ⟨w1.heap.size, 0, none⟩ = some (.int .i64 0) := by rw [cell_of_row _ _ 0 _ 24 (0, 0) (heap_alloc_new w1 _)]; rfl
  have bt1 : (w1.alloc (Obj.cells #[Value.int IntKind.i64 0, Value.slice a 5 5] 24)).cell? ⟨w1.heap.size, 1, none⟩ = some (.slice a 5 5) := by rw [cell_of_row _ _ 1 _ 24 (0, 0) (heap_alloc_new w1 _)]; rfl
  have hL := fun wx (k : Keep w1 wx) => Leaves_any a 5 0 smpL (by decide) wx (hrd.keep k)
  have e5 : smpL.length = 5 := rfl
  rw [e5, smp_lvs, smp_shE] at hL
  generalize w1.alloc _ = w2 at kA bt0 bt1 ⊢
  generalize w1.heap.size = s at bt0 bt1 ⊢
  have hL2 := hL _ kA
  refine hL2.mono ?_
  rintro e w3 ⟨v3, rfl, o3, b3, k3⟩
  obtain ⟨a3, c3, rfl, hc3, r3⟩ := o3.rdI
  have bt0 := k3.cell bt0
  have bt1 := k3.cell bt1
  have k13 := kA.trans k3
  simp only [List.map_cons, List.map_nil, List.length_cons, List.length_nil, Nat.reduceAdd] at r3 ⊢
  clear hL hL2 o3 b3 k3 kA hc3
  have hF := fun (ax : Option Addr) (wx : World) (k : Keep w1 wx) (hx : RdF wx ax [4611686018427387904, 4602678819172646912]) => Leaf_any a ax 5 2 0 smpL [4611686018427387904, 4602678819172646912] (by decide) (by decide) wx (hrd.keep k) hx
  have e2 : ([4611686018427387904, 4602678819172646912] : List Nat).length = 2 := rfl
  simp only [e5, e2, smp_lf.1, smp_lf.2.1, smp_lf.2.2] at hF
  go_wp2_with fail
  have kB : Keep w3 (w3.alloc (Obj.cells #[Value.float FloatKind.f64 4611686018427387904, Value.float FloatKind.f64 4602678819172646912] 37)) := (Keep.refl w3).alloc _
  refine (hF _ _ (k13.trans kB) (rdF_new w3 _ _)).mono ?_
  rintro e w4 ⟨rfl, k4⟩
  have k34 := kB.trans k4
  have bt0 := k34.cell bt0
  have bt1 := k34.cell bt1
  have r3 := r3.keep k34
  have k14 := k13.trans k34
  clear hF kB k4 k34 k13
  have hN := NaN_any
  go_wp2_with fail
  have hSc := score_smp w1 a hrd
  refine Code.wp_mono (Q := fun e a' w' => e = .normal ∧ ∃ (x : Nat → Value) (u2 u3 u4 u5 u6 u9 u10 u11 u12 u13 u14 u15 u16 u17 u18 u19 u20 u21 : Value), a' = { tmps := #[Value.bool false, Value.pointer (some ⟨s, 0, none⟩), Value.slice a3 3 c3, Value.int IntKind.i64 0, Value.int IntKind.i64 1, Value.int IntKind.i64 20, Value.int IntKind.i64 0, x 11, x 12, u9, u10, u11, u12, u13, u14, u15, u16, u17, u18, u19, u20, u21, x 8, x 0, x 1, x 2, x 3, x 4, x 5, x 6, x 7, x 9, x 10, undef, undef, undef, undef, undef, undef, undef, undef, undef, undef, undef, undef, undef, undef, undef, undef, undef, undef, undef, undef, undef, undef, undef, undef, undef, undef, undef, undef, undef, undef, undef, undef, undef, undef, undef, undef, undef, undef, undef, undef, undef, undef], defers := [] } ∧ OwnZ 2 w4.heap.size w' (x 11) [37] ∧ x 12 = .int .i64 0 ∧ Keep w4 w') ?_ ?_
  rotate_left
  · have kS : ∀ wx, Keep w4 wx → wx.cell? ⟨s, 0, none⟩ = some (.int .i64 0) ∧ wx.cell? ⟨s, 1, none⟩ = some (.slice a 5 5) := fun wx k => ⟨k.cell bt0, k.cell bt1⟩
    clear r3
    refine wp_region_inv (lvI a w4 (fun x => { tmps := #[Value.bool false, Value.pointer (some ⟨s, 0, none⟩), Value.slice a3 3 c3, Value.int IntKind.i64 0, Value.int IntKind.i64 1, Value.int IntKind.i64 20, Value.int IntKind.i64 0, x 11, x 12, Value.agg #[Value.int IntKind.i64 0, Value.slice a 5 5], Value.tuple #[Value.slice a3 3 c3, Value.int IntKind.i64 0], Value.agg #[Value.int IntKind.i64 0, Value.slice a 5 5], Value.tuple #[Value.slice a3 3 c3, Value.int IntKind.i64 0], Value.slice a3 3 c3, Value.int IntKind.i64 0, Value.tuple #[Value.int IntKind.i64 1, Value.int IntKind.i64 20, Value.int IntKind.i64 0], Value.agg #[Value.int IntKind.i64 0, Value.slice a 5 5], Value.slice (some ⟨w3.heap.size, 0, none⟩) 2 2, Value.tuple #[Value.int IntKind.i64 1, Value.int IntKind.i64 20, Value.int IntKind.i64 0], Value.int IntKind.i64 1, Value.int IntKind.i64 20, Value.int IntKind.i64 0, x 8, x 0, x 1, x 2, x 3, x 4, x 5, x 6, x 7, x 9, x 10, undef, undef, undef, undef, undef, undef, undef, undef, undef, undef, undef, undef, undef, undef, undef, undef, undef, undef, undef, undef, undef, undef, undef, undef, undef, undef, undef, undef, undef, undef, undef, undef, undef, undef, undef, undef, undef, undef, undef, undef, undef, undef], defers := [] })) (by kernel_rfl) (fun l A w h => h.1) ⟨rfl, fun _ => undef, rfl, (Keep.refl w4).drew, fun j hj => ?_⟩ ?_ ?_
    · exfalso
      simp [Array.getD] at hj
    · rintro l A w ii ⟨hs, x, rfl, kw, hF⟩ hi
      obtain ⟨-, o, ho, hd⟩ := mem_ready.1 hi
      obtain ⟨d0, d1⟩ := kS w kw
      have hlt := (Array.getElem?_eq_some_iff.1 ho).1
      match ii, hlt with
      | 0, _ =>
        simp only [List.getElem?_toArray, List.getElem?_cons_succ, List.getElem?_cons_zero, Option.some.injEq] at ho
        subst ho
        refine wpOp_step rfl (fun K hK => ?_)
        go_simp
        exact hK _ _ (lvI.next (i := 0) (v := .slice (some ⟨w.heap.size, 0, none⟩) 2 2) hs kw hF ((Keep.refl w).alloc _) rfl ⟨_, rfl⟩)
      | 1, _ =>
        simp only [List.getElem?_toArray, List.getElem?_cons_succ, List.getElem?_cons_zero, Option.some.injEq] at ho
        subst ho
        refine wpOp_step rfl (fun K hK => ?_)
        go_simp
        exact hK _ _ (lvI.next (i := 1) (v := .slice (some ⟨w.heap.size, 0, none⟩) 1 1) hs kw hF ((Keep.refl w).alloc _) rfl ⟨_, rfl, by rw [cell_of_row _ _ 0 _ 2 (0, 0) (heap_alloc_new w _)]; rfl⟩)
      | 2, _ =>
        simp only [List.getElem?_toArray, List.getElem?_cons_succ, List.getElem?_cons_zero, Option.some.injEq] at ho
        subst ho
        refine wpOp_step rfl (fun K hK => ?_)
        go_simp
        exact hK _ _ (lvI.next (i := 2) (v := .agg #[.int .i64 0, .slice a 5 5]) hs kw hF (Keep.refl w) rfl rfl)
      | 3, _ =>
        simp only [List.getElem?_toArray, List.getElem?_cons_succ, List.getElem?_cons_zero, Option.some.injEq] at ho
        subst ho
        have e2 : x 2 = _ := hF 2 (hd { on := 2, ground := .data } (by simp) rfl)
        refine wpOp_step rfl (fun K hK => ?_)
        go_simp
        exact hK _ _ (lvI.next (i := 3) (v := .slice (some ⟨w.heap.size, 0, none⟩) 1 1) hs kw hF ((Keep.refl w).alloc _) (by rw [← e2]; rfl) ⟨_, rfl, by rw [cell_of_row _ _ 0 _ 24 (0, 0) (heap_alloc_new w _)]; rfl, by rw [cell_of_row _ _ 1 _ 24 (0, 0) (heap_alloc_new w _)]; rfl⟩)
      | 4, _ =>
        simp only [List.getElem?_toArray, List.getElem?_cons_succ, List.getElem?_cons_zero, Option.some.injEq] at ho
        subst ho
        obtain ⟨b0, e0⟩ := hF 0 (hd { on := 0, ground := .data } (by simp) rfl)
        obtain ⟨b1, e1, q1⟩ := hF 1 (hd { on := 1, ground := .data } (by simp) rfl)
        obtain ⟨b3, e3, q3, q4⟩ := hF 3 (hd { on := 3, ground := .data } (by simp) rfl)
        refine wpOp_step rfl (fun K hK => ?_)
        go_simp
        exact hK _ _ (lvI.next (i := 4) (v := .agg #[.string ⟨#[]⟩, .slice (some ⟨b0, 0, none⟩) 2 2, .int .i64 1, .slice (some ⟨b1, 0, none⟩) 1 1, .slice (some ⟨b3, 0, none⟩) 1 1]) hs kw hF (Keep.refl w) (by rw [← e0, ← e1, ← e3]; rfl) ⟨b0, b1, b3, rfl, q1, q3, q4⟩)
      | 5, _ =>
        simp only [List.getElem?_toArray, List.getElem?_cons_succ, List.getElem?_cons_zero, Option.some.injEq] at ho
        subst ho
        refine wpOp_step rfl (fun K hK => ?_)
        go_simp
        refine (hN _).mono ?_
        rintro e wA ⟨rfl, rfl⟩
        exact hK _ _ (lvI.next (i := 5) (v := .float .f64 9221120237041090561) hs kw hF (Keep.refl _) rfl rfl)
      | 6, _ =>
        simp only [List.getElem?_toArray, List.getElem?_cons_succ, List.getElem?_cons_zero, Option.some.injEq] at ho
        subst ho
        have e5 : x 5 = _ := hF 5 (hd { on := 5, ground := .data } (by simp) rfl)
        refine wpOp_step rfl (fun K hK => ?_)
        go_simp
        exact hK _ _ (lvI.next (i := 6) (v := .slice (some ⟨w.heap.size, 0, none⟩) 2 2) hs kw hF ((Keep.refl w).alloc _) (by rw [← e5]; rfl) ⟨_, rfl, by rw [cell_of_row _ _ 0 _ 37 (0, 0) (heap_alloc_new w _)]; rfl, by rw [cell_of_row _ _ 1 _ 37 (0, 0) (heap_alloc_new w _)]; rfl⟩)
      | 7, _ =>
        simp only [List.getElem?_toArray, List.getElem?_cons_succ, List.getElem?_cons_zero, Option.some.injEq] at ho
        subst ho
        obtain ⟨b0, b1, b3, e4, q1, q2, q3⟩ := hF 4 (hd { on := 4, ground := .data } (by simp) rfl)
        obtain ⟨b6, e6, q4, q5⟩ := hF 6 (hd { on := 6, ground := .data } (by simp) rfl)
        refine wpOp_step rfl (fun K hK => ?_)
        go_simp
        refine (hSc _ _ _ _ _ (k14.trans kw) q1 q2 q3 q4 q5).mono ?_
        rintro e wS ⟨v, rfl, hv, kS'⟩
        exact hK _ _ (lvI.next (i := 7) (v := .tuple #[v, .int .i64 0]) hs kw hF kS' (by rw [← e4, ← e6]; rfl) ⟨v, rfl, hv.mono kw.le⟩)
      | 8, _ =>
        simp only [List.getElem?_toArray, List.getElem?_cons_succ, List.getElem?_cons_zero, Option.some.injEq] at ho
        subst ho
        obtain ⟨v, e7, q1⟩ := hF 7 (hd { on := 7, ground := .data } (by simp) rfl)
        refine wpOp_step rfl (fun K hK => ?_)
        go_simp
        exact hK _ _ (lvI.next (i := 8) (v := .tuple #[v, .int .i64 0]) hs kw hF (Keep.refl w) (by rw [← e7]; rfl) ⟨v, rfl, q1⟩)
      | 9, _ =>
        simp only [List.getElem?_toArray, List.getElem?_cons_succ, List.getElem?_cons_zero, Option.some.injEq] at ho
        subst ho
        obtain ⟨v, e8, q1⟩ := hF 8 (hd { on := 8, ground := .data } (by simp) rfl)
        refine wpOp_step rfl (fun K hK => ?_)
        go_simp
        exact hK _ _ (lvI.next (i := 9) (v := v) hs kw hF (Keep.refl w) (by rw [← e8]; rfl) q1)
      | 10, _ =>
        simp only [List.getElem?_toArray, List.getElem?_cons_succ, List.getElem?_cons_zero, Option.some.injEq] at ho
        subst ho
        obtain ⟨v, e8, q1⟩ := hF 8 (hd { on := 8, ground := .data } (by simp) rfl)
        refine wpOp_step rfl (fun K hK => ?_)
        go_simp
        exact hK _ _ (lvI.next (i := 10) (v := .int .i64 0) hs kw hF (Keep.refl w) (by rw [← e8]; rfl) rfl)
      | 11, _ =>
        simp only [List.getElem?_toArray, List.getElem?_cons_succ, List.getElem?_cons_zero, Option.some.injEq] at ho
        subst ho
        have q9 : OwnZ _ _ _ (x 9) _ := hF 9 (hd { on := 9, ground := .data } (by simp) rfl)
        refine wpOp_step rfl (fun K hK => ?_)
        go_simp
        exact hK _ _ (lvI.next (i := 11) (v := x 9) hs kw hF (Keep.refl w) rfl q9)
      | 12, _ =>
        simp only [List.getElem?_toArray, List.getElem?_cons_succ, List.getElem?_cons_zero, Option.some.injEq] at ho
        subst ho
        have e10 : x 10 = _ := hF 10 (hd { on := 10, ground := .data } (by simp) rfl)
        refine wpOp_step rfl (fun K hK => ?_)
        go_simp
        exact hK _ _ (lvI.next (i := 12) (v := .int .i64 0) hs kw hF (Keep.refl w) (by rw [← e10]; rfl) rfl)
      | n + 13, hn => exact absurd hn (by show ¬ n + 13 < 13; omega)
    · rintro l A w ⟨hs, x, rfl, kw, hF⟩ hr
      have g0 : l.getD 0 false = true := ready_nil hr (i := 0) rfl hs (by simp [Region.binds])
      have g1 : l.getD 1 false = true := ready_nil hr (i := 1) rfl hs (by simp [Region.binds])
      have g2 : l.getD 2 false = true := ready_nil hr (i := 2) rfl hs (by simp [Region.binds])
      have g3 : l.getD 3 false = true := ready_nil hr (i := 3) rfl hs (by simp at g2; simp [Region.binds, g2])
      have g4 : l.getD 4 false = true := ready_nil hr (i := 4) rfl hs (by simp at g0 g1 g3; simp [Region.binds, g0, g1, g3])
      have g5 : l.getD 5 false = true := ready_nil hr (i := 5) rfl hs (by simp [Region.binds])
      have g6 : l.getD 6 false = true := ready_nil hr (i := 6) rfl hs (by simp at g5; simp [Region.binds, g5])
      have g7 : l.getD 7 false = true := ready_nil hr (i := 7) rfl hs (by simp at g4 g6 g5; simp [Region.binds, g4, g6, g5])
      have g8 : l.getD 8 false = true := ready_nil hr (i := 8) rfl hs (by simp at g7; simp [Region.binds, g7])
      have g9 : l.getD 9 false = true := ready_nil hr (i := 9) rfl hs (by simp at g8; simp [Region.binds, g8])
      have g10 : l.getD 10 false = true := ready_nil hr (i := 10) rfl hs (by simp at g8; simp [Region.binds, g8])
      have g11 : l.getD 11 false = true := ready_nil hr (i := 11) rfl hs (by simp at g9 g7 g0 g1 g2 g3 g4 g5 g6 g8; simp [Region.binds, g9, g7, g0, g1, g2, g3, g4, g5, g6, g8])
      have g12 : l.getD 12 false = true := ready_nil hr (i := 12) rfl hs (by simp at g10 g11 g0 g1 g2 g3 g4 g5 g6 g7 g8 g9; simp [Region.binds, g10, g11, g0, g1, g2, g3, g4, g5, g6, g7, g8, g9])
      exact ⟨rfl, x, Value.slice a3 3 c3, Value.int IntKind.i64 0, Value.int IntKind.i64 1, Value.int IntKind.i64 20, Value.int IntKind.i64 0, Value.agg #[Value.int IntKind.i64 0, Value.slice a 5 5], Value.tuple #[Value.slice a3 3 c3, Value.int IntKind.i64 0], Value.agg #[Value.int IntKind.i64 0, Value.slice a 5 5], Value.tuple #[Value.slice a3 3 c3, Value.int IntKind.i64 0], Value.slice a3 3 c3, Value.int IntKind.i64 0, Value.tuple #[Value.int IntKind.i64 1, Value.int IntKind.i64 20, Value.int IntKind.i64 0], Value.agg #[Value.int IntKind.i64 0, Value.slice a 5 5], Value.slice (some ⟨w3.heap.size, 0, none⟩) 2 2, Value.tuple #[Value.int IntKind.i64 1, Value.int IntKind.i64 20, Value.int IntKind.i64 0], Value.int IntKind.i64 1, Value.int IntKind.i64 20, Value.int IntKind.i64 0, rfl, hF 11 g11, hF 12 g12, kw⟩
  · rintro e a' w5 ⟨rfl, x, u2, u3, u4, u5, u6, u9, u10, u11, u12, u13, u14, u15, u16, u17, u18, u19, u20, u21, rfl, hv, hx12, k5⟩
    rw [hx12]
    generalize hxv : x 11 = v at hv ⊢
    clear hx12
    clear hxv
    obtain ⟨av, cv, rfl, hcv, hrv⟩ := hv.shape
    have hv0 := hrv 0 (by simp)
    obtain ⟨bv, ov, rfl, cv0⟩ := hv0
    have bt0 := k5.cell bt0
    have bt1 := k5.cell bt1
    have r3 := r3.keep k5
    have k15 := k14.trans k5
    have hnd := (hrd.keep k15) 0 (by decide)
    obtain ⟨b, o, ca, cp, rfl, hn⟩ := hnd
    have hG := fun (wx : World) (k : Keep w5 wx) => Goes_any (smpL.getD 0 nd0) ca cp 4602678819172646912 wx (hn.rd.keep k) hn.sz hn.cp
    rw [smp_gs] at hG
    have hI := fun (wx : World) (k : Keep w5 wx) (b : Option Addr) (cb : Nat) (hb : RdI wx b [3, 4, 1]) => rInts_any a3 b c3 cb [3, 4, 1] [3, 4, 1] wx (by decide) (r3.keep k) hb
    clear hSc hN hrv hv r3
    have e0 : smpL.getD 0 nd0 = ⟨2, 0, 1, 4602678819172646912, [], 2, 2, 1⟩ := rfl
    rw [e0] at hn hG
    have hI' := hI _ ((Keep.refl w5).alloc (Obj.cells #[Value.int IntKind.i64 3, Value.int IntKind.i64 4, Value.int IntKind.i64 1] 3)) (some ⟨w5.heap.size, 0, none⟩) 3 (by
      intro j hj
      refine ⟨_, _, rfl, ?_⟩
      rw [Nat.zero_add, cell_of_row _ _ j _ 3 (0, 0) (heap_alloc_new w5 _)]
      match j, hj with
      | 0, _ => rfl
      | 1, _ => rfl
      | 2, _ => rfl)
    simp only [List.length_cons, List.length_nil, Nat.reduceAdd, decide_true] at hI'
    go_wp2_with fail
    refine hI'.mono ?_
    rintro e w6 ⟨rfl, k6⟩
    have k56 := ((Keep.refl w5).alloc (Obj.cells #[Value.int IntKind.i64 3, Value.int IntKind.i64 4, Value.int IntKind.i64 1] 3)).trans k6
    have bt1 := k56.cell bt1
    have cv0 : w6.cell? ⟨bv, ov, none⟩ = some (.int .i64 37) := k56.cell cv0
    have hn := hn.keep k56
    have c0 := hn.c0
    have c1 := hn.c1
    have c2 := hn.c2
    have c3' := hn.c3
    have c4 := hn.c4
    have c5 := hn.c5
    have c6 := hn.c6
    have c7 := hn.c7
    simp only [Nat.zero_mul, Nat.add_zero] at c0 c1 c2 c3' c4 c5 c6 c7
    have hG' := hG _ k56
    unfold Nd.v at hG'
    simp only [List.length_nil] at hG' c4
    have kf := k1.trans (k15.trans k56)
    clear hI hI' hG hn e0
    go_wp2_with (go_at_call 22; refine hG'.mono ?_; rintro e w7 ⟨rfl, k7⟩)
    go_ret
    exact ⟨rfl, kf.trans k7⟩
end Go.Proofs.Ytbchinfmdioijaa
