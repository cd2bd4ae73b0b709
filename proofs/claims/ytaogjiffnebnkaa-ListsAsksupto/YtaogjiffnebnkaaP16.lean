import Derived.Test.YtaogjiffnebnkaaP15
import Derived.Test.YtaogjiffnebnkaaP12
import Derived.BigQuiet
set_option linter.unusedVariables false
set_option linter.unusedSimpArgs false
namespace Go.Proofs.Ytaogjiffnebnkaa
open Go.RowKit Go.Shelf
attribute [local go_sem] run_store_float
def v1 (s : Nat) (F : Int) (na : Option Addr) (nl nc : Nat) (ca : Option Addr) (cl cc : Nat) (la : Option Addr) (ll lc : Nat) : Nat → Value
  | 0 => .pointer (some ⟨s, 0, none⟩)
  | 1 => .int .i64 F
  | 2 => .pointer (some ⟨s, 1, none⟩)
  | 3 => .slice na nl nc
  | 5 => .pointer (some ⟨s, 2, none⟩)
  | 6 => .slice ca cl cc
  | 8 => .pointer (some ⟨s, 3, none⟩)
  | 9 => .slice la ll lc
  | _ => undef
theorem store4 (w : World) (g ty : Nat) (x0 x1 x2 x3 v0 v1 v2 v3 : Value) (h : w.heap[g]? = some (.cells #[x0, x1, x2, x3] ty (0, 0))) :
    ((((w.setCell ⟨g, 0, none⟩ v0).setCell ⟨g, 1, none⟩ v1).setCell ⟨g, 2, none⟩ v2).setCell ⟨g, 3, none⟩ v3).heap[g]? = some (.cells #[v0, v1, v2, v3] ty (0, 0)) ∧
    ∀ b, b ≠ g → ((((w.setCell ⟨g, 0, none⟩ v0).setCell ⟨g, 1, none⟩ v1).setCell ⟨g, 2, none⟩ v2).setCell ⟨g, 3, none⟩ v3).heap[b]? = w.heap[b]? := by
  have a0 := heap_setCell_same w g 0 _ ty v0 h
  have a1 := heap_setCell_same _ g 1 _ ty v1 a0
  have a2 := heap_setCell_same _ g 2 _ ty v2 a1
  have a3 := heap_setCell_same _ g 3 _ ty v3 a2
  refine ⟨by simpa using a3, fun b hb => ?_⟩
  rw [neq_set _ _ _ _ b hb, neq_set _ _ _ _ b hb, neq_set _ _ _ _ b hb, neq_set _ _ _ _ b hb]
theorem RG.store {w1 : World} {V : Nat → Value} {F : Int} {L C O : List Ct} {l : Array Bool} {x : Nat → Value} {w w' : World} (h : RG w1 V F L C O l x w) {p : Nat} (hp : w1.heap.size ≤ p) (hz : w.heap[p]? = some (.cells zbx 33 (0, 0))) {u4 u7 u10 : Value} (h2 : w'.heap[p]? = some (.cells #[.int .i64 F, u4, u7, u10] 33 (0, 0))) (h1 : ∀ b, b ≠ p → w'.heap[b]? = w.heap[b]?) (k : Keep w1 w') (g12 : l.getD 12 false = true) (ep : x 12 = .pointer (some ⟨p, 0, none⟩)) (e4 : x 4 = u4) (e7 : x 7 = u7) (e10 : x 10 = u10) : RG w1 V F L C O (l.setIfInBounds 13 true) x w' := by
  refine ⟨by simpa using h.sz, k, fun j hj hj2 => ?_, fun h11 => ?_, fun _ => ⟨p, ep, hp, fun h13 => ?_, fun _ => by rw [e4, e7, e10]; exact h2⟩⟩
  · rw [getD_sets _ _ _ (by omega)] at hj2
    refine (h.f j hj hj2).keep (fun ho => ho.same k (fun b cur hb => h1 b (fun e => ?_))) (fun _ => ⟨rfl, rfl, rfl⟩)
    rw [e, hz] at hb
    rcases hb with hb | hb <;> simp at hb
  · rw [getD_sets _ _ _ (by omega)] at h11
    rw [getD_sets _ _ _ (by omega), getD_sets _ _ _ (by omega), getD_sets _ _ _ (by omega)]
    exact h.c11 h11
  · have hs := h.sz
    have : (l.setIfInBounds 13 true).getD 13 false = true := by simp [Array.getD, hs]
    rw [this] at h13
    cases h13
/-- The invariant of the law's first statement. -/
def RGI (FR : (Nat → Value) → Act) (w1 : World) (V : Nat → Value) (F : Int) (L C O : List Ct) (l : Array Bool) (A : Act) (w : World) : Prop :=
  (∃ y : Nat → Value, A = FR y ∧ RG w1 V F L C O l y w) ∧ (l.getD 13 false = true → ∀ j, j < 13 → l.getD j false = true)
theorem RGI.next {FR : (Nat → Value) → Act} {w1 : World} {V : Nat → Value} {F : Int} {L C O : List Ct} {l : Array Bool} {A' : Act} {y : Nat → Value} {w w' : World} (hR : RG w1 V F L C O l y w) (h13 : l.getD 13 false = false) (i : Nat) (hi : i < 12) (hl : l.getD i false = false) (k : Keep w w') (v : Value) (hv : Fc w1 V F L C O y w' i v) (hc : i = 11 → l.getD 4 false = true ∧ l.getD 7 false = true ∧ l.getD 10 false = true) (hA : A' = FR (updV y i v)) : RGI FR w1 V F L C O (l.setIfInBounds i true) A' w' :=
  ⟨⟨_, hA, hR.next i hi hl h13 k v hv hc⟩, fun h => by rw [getD_sets _ _ _ (by omega), h13] at h; cases h⟩
set_option maxRecDepth 100000 in
set_option maxHeartbeats 4000000 in
theorem law_asks (F : Int) (na : Option Addr) (L : List Ct) (nc : Nat) (ca : Option Addr) (C : List Ct) (cc : Nat) (la : Option Addr) (O : List Ct) (lc : Nat) (x : Nat) (w : World) (hL : L.length ≤ 1048576) (hC : C.length ≤ 1048576) (hO : O.length ≤ 1048576) (hnc : L.length ≤ nc) (hcp : C.length ≤ cc) (rn : RdC w na L) (rc : RdC w ca C) (rl : RdC w la O) :
    Calls Try.prog 4 #[lst F na L.length nc ca C.length cc la O.length lc, .float .f64 x] w fun e w' => e = .returned (.bool true) ∧ Keep w w' := by
  obtain ⟨w1, hw1, k0, tb⟩ : ∃ w1, w.alloc (Obj.cells #[Value.int IntKind.i64 F, Value.slice na L.length nc, Value.slice ca C.length cc, Value.slice la O.length lc] 33) = w1 ∧ Keep w w1 ∧ w1.heap[w.heap.size]? = some (Obj.cells #[Value.int IntKind.i64 F, Value.slice na L.length nc, Value.slice ca C.length cc, Value.slice la O.length lc] 33 (0, 0)) := ⟨_, rfl, (Keep.refl w).alloc _, heap_alloc_new w _⟩
  have b0 := cell_of_row _ _ 0 _ 33 (0, 0) tb
  have b1 := cell_of_row _ _ 1 _ 33 (0, 0) tb
  have b2 := cell_of_row _ _ 2 _ 33 (0, 0) tb
  have b3 := cell_of_row _ _ 3 _ 33 (0, 0) tb
  simp only [List.getElem?_toArray, List.getElem?_cons_zero, List.getElem?_cons_succ] at b0 b1 b2 b3
  have rn1 := rn.keep k0
  have rc1 := rc.keep k0
  have rl1 := rl.keep k0
  replace hw1 : Hid _ := hw1
  clear tb rn rc rl
  unfold lst
  go_enter Try.func4, Try.ntmps4
  go_wp2_with fail
  rw [hw1.out]
  generalize w.heap.size = s at b0 b1 b2 b3 ⊢
  have hCn := fun (wx : World) (k : Keep w1 wx) => Copied_any na nc L wx hL (rn1.keep k)
  have hCc := fun (wx : World) (k : Keep w1 wx) => Copied_any ca cc C wx hC (rc1.keep k)
  have hCl := fun (wx : World) (k : Keep w1 wx) => Copied_any la lc O wx hO (rl1.keep k)
  refine Code.wp_mono (Q := fun e a' w' => e = .normal ∧ ∃ (y : Nat → Value) (p : Nat) (K1 K2 K3 : List (Ct × Option Addr × Nat)), a' = { tmps := #[Value.agg #[Value.int IntKind.i64 F, Value.slice na L.length nc, Value.slice ca C.length cc, Value.slice la O.length lc], Value.float FloatKind.f64 x, Value.pointer (some ⟨s, 0, none⟩), undef, Value.bool false, y 12, undef, undef, undef, y 0, y 1, y 2, y 3, y 4, y 5, y 6, y 7, y 8, y 9, y 10, y 11, undef, undef, undef, undef, undef, undef, undef, undef, undef, undef, undef, undef, undef, undef, undef, undef, undef, undef, undef, undef, undef, undef, undef, undef, undef, undef, undef, undef, undef, undef, undef, undef, undef, undef, undef, undef, undef, undef, undef, undef, undef, undef, undef, undef, undef, undef, undef, undef, undef, undef, undef, undef, undef, undef, undef, undef, undef, undef, undef, undef, undef, undef, undef, undef, undef, undef, undef, undef, undef, undef, undef, undef, undef, undef, undef, undef, undef, undef, undef, undef, undef, undef, undef, undef, undef], defers := [] } ∧ y 12 = .pointer (some ⟨p, 0, none⟩) ∧ Keep w1 w' ∧ OC L w1 (y 4) w' K1 ∧ OC C w1 (y 7) w' K2 ∧ OC O w1 (y 10) w' K3 ∧ w'.heap[p]? = some (.cells #[.int .i64 F, y 4, y 7, y 10] 33 (0, 0))) ?_ ?_
  rotate_left
  · refine wp_region_inv (RGI (fun y => { tmps := #[Value.agg #[Value.int IntKind.i64 F, Value.slice na L.length nc, Value.slice ca C.length cc, Value.slice la O.length lc], Value.float FloatKind.f64 x, Value.pointer (some ⟨s, 0, none⟩), undef, Value.bool false, y 12, undef, undef, undef, y 0, y 1, y 2, y 3, y 4, y 5, y 6, y 7, y 8, y 9, y 10, y 11, undef, undef, undef, undef, undef, undef, undef, undef, undef, undef, undef, undef, undef, undef, undef, undef, undef, undef, undef, undef, undef, undef, undef, undef, undef, undef, undef, undef, undef, undef, undef, undef, undef, undef, undef, undef, undef, undef, undef, undef, undef, undef, undef, undef, undef, undef, undef, undef, undef, undef, undef, undef, undef, undef, undef, undef, undef, undef, undef, undef, undef, undef, undef, undef, undef, undef, undef, undef, undef, undef, undef, undef, undef, undef, undef, undef, undef, undef, undef, undef, undef, undef, undef, undef, undef], defers := [] }) w1 (v1 s F na L.length nc ca C.length cc la O.length lc) F L C O) (by kernel_rfl) (fun l A w h => by obtain ⟨⟨y, -, h⟩, -⟩ := h; exact h.sz) ⟨⟨fun _ => undef, rfl, ⟨rfl, (Keep.refl w1).drew, fun j hj h => ?_, fun h => ?_, fun h => ?_⟩⟩, fun h => ?_⟩ ?_ ?_
    · exfalso; simp [Array.getD] at h
    · exfalso; simp [Array.getD] at h
    · exfalso; simp [Array.getD] at h
    · exfalso; simp [Array.getD] at h
    · rintro l A wc ii ⟨⟨y, rfl, hR⟩, hc13⟩ hi
      obtain ⟨hl, oo, ho, hd⟩ := mem_ready.1 hi
      have hlt := (Array.getElem?_eq_some_iff.1 ho).1
      have hl : l.getD ii false = false := by
        have h' : ii < l.size := by rw [hR.sz]; exact hlt
        simpa [Array.getD, h'] using hl
      have h13 : ii ≠ 13 → l.getD 13 false = false := by
        intro hne
        cases h : l.getD 13 false with
        | false => rfl
        | true =>
          have hlt' : ii < 14 := hlt
          have := hc13 h ii (by omega)
          rw [hl] at this
          cases this
      have kc := hR.kp
      match ii, hlt with
      | 0, _ =>
        simp only [List.getElem?_toArray, List.getElem?_cons_succ, List.getElem?_cons_zero, Option.some.injEq] at ho
        subst ho
        refine wpOp_step rfl (fun K hK => ?_)
        go_simp
        exact hK _ _ (RGI.next hR (h13 (by omega)) 0 (by omega) hl (Keep.refl wc) _ rfl (by omega) (by simp [updV, v1]))
      | 1, _ =>
        simp only [List.getElem?_toArray, List.getElem?_cons_succ, List.getElem?_cons_zero, Option.some.injEq] at ho
        subst ho
        have e0 : y 0 = (v1 s F na L.length nc ca C.length cc la O.length lc) 0 := hR.f 0 (by omega) (hd { on := 0, ground := .data } (by simp) rfl)
        simp only [v1] at e0
        have cl := kc.cell b0
        refine wpOp_step rfl (fun K hK => ?_)
        go_simp
        exact hK _ _ (RGI.next hR (h13 (by omega)) 1 (by omega) hl (Keep.refl wc) _ rfl (by omega) (by simp [updV, v1, e0]))
      | 2, _ =>
        simp only [List.getElem?_toArray, List.getElem?_cons_succ, List.getElem?_cons_zero, Option.some.injEq] at ho
        subst ho
        refine wpOp_step rfl (fun K hK => ?_)
        go_simp
        exact hK _ _ (RGI.next hR (h13 (by omega)) 2 (by omega) hl (Keep.refl wc) _ rfl (by omega) (by simp [updV, v1]))
      | 3, _ =>
        simp only [List.getElem?_toArray, List.getElem?_cons_succ, List.getElem?_cons_zero, Option.some.injEq] at ho
        subst ho
        have e2 : y 2 = (v1 s F na L.length nc ca C.length cc la O.length lc) 2 := hR.f 2 (by omega) (hd { on := 2, ground := .data } (by simp) rfl)
        simp only [v1] at e2
        have cl := kc.cell b1
        refine wpOp_step rfl (fun K hK => ?_)
        go_simp
        exact hK _ _ (RGI.next hR (h13 (by omega)) 3 (by omega) hl (Keep.refl wc) _ rfl (by omega) (by simp [updV, v1, e2]))
      | 4, _ =>
        simp only [List.getElem?_toArray, List.getElem?_cons_succ, List.getElem?_cons_zero, Option.some.injEq] at ho
        subst ho
        have e3 : y 3 = (v1 s F na L.length nc ca C.length cc la O.length lc) 3 := hR.f 3 (by omega) (hd { on := 3, ground := .data } (by simp) rfl)
        simp only [v1] at e3
        refine wpOp_step rfl (fun K hK => ?_)
        go_simp
        refine (hCn _ kc).mono ?_
        rintro e wS ⟨v, rfl, KS, hS⟩
        exact hK _ _ (RGI.next hR (h13 (by omega)) 4 (by omega) hl hS.kp v ⟨KS, hS.base kc⟩ (by omega) (by simp [updV, e3]))
      | 5, _ =>
        simp only [List.getElem?_toArray, List.getElem?_cons_succ, List.getElem?_cons_zero, Option.some.injEq] at ho
        subst ho
        refine wpOp_step rfl (fun K hK => ?_)
        go_simp
        exact hK _ _ (RGI.next hR (h13 (by omega)) 5 (by omega) hl (Keep.refl wc) _ rfl (by omega) (by simp [updV, v1]))
      | 6, _ =>
        simp only [List.getElem?_toArray, List.getElem?_cons_succ, List.getElem?_cons_zero, Option.some.injEq] at ho
        subst ho
        have e5 : y 5 = (v1 s F na L.length nc ca C.length cc la O.length lc) 5 := hR.f 5 (by omega) (hd { on := 5, ground := .data } (by simp) rfl)
        simp only [v1] at e5
        have cl := kc.cell b2
        refine wpOp_step rfl (fun K hK => ?_)
        go_simp
        exact hK _ _ (RGI.next hR (h13 (by omega)) 6 (by omega) hl (Keep.refl wc) _ rfl (by omega) (by simp [updV, v1, e5]))
      | 7, _ =>
        simp only [List.getElem?_toArray, List.getElem?_cons_succ, List.getElem?_cons_zero, Option.some.injEq] at ho
        subst ho
        have e6 : y 6 = (v1 s F na L.length nc ca C.length cc la O.length lc) 6 := hR.f 6 (by omega) (hd { on := 6, ground := .data } (by simp) rfl)
        simp only [v1] at e6
        refine wpOp_step rfl (fun K hK => ?_)
        go_simp
        refine (hCc _ kc).mono ?_
        rintro e wS ⟨v, rfl, KS, hS⟩
        exact hK _ _ (RGI.next hR (h13 (by omega)) 7 (by omega) hl hS.kp v ⟨KS, hS.base kc⟩ (by omega) (by simp [updV, e6]))
      | 8, _ =>
        simp only [List.getElem?_toArray, List.getElem?_cons_succ, List.getElem?_cons_zero, Option.some.injEq] at ho
        subst ho
        refine wpOp_step rfl (fun K hK => ?_)
        go_simp
        exact hK _ _ (RGI.next hR (h13 (by omega)) 8 (by omega) hl (Keep.refl wc) _ rfl (by omega) (by simp [updV, v1]))
      | 9, _ =>
        simp only [List.getElem?_toArray, List.getElem?_cons_succ, List.getElem?_cons_zero, Option.some.injEq] at ho
        subst ho
        have e8 : y 8 = (v1 s F na L.length nc ca C.length cc la O.length lc) 8 := hR.f 8 (by omega) (hd { on := 8, ground := .data } (by simp) rfl)
        simp only [v1] at e8
        have cl := kc.cell b3
        refine wpOp_step rfl (fun K hK => ?_)
        go_simp
        exact hK _ _ (RGI.next hR (h13 (by omega)) 9 (by omega) hl (Keep.refl wc) _ rfl (by omega) (by simp [updV, v1, e8]))
      | 10, _ =>
        simp only [List.getElem?_toArray, List.getElem?_cons_succ, List.getElem?_cons_zero, Option.some.injEq] at ho
        subst ho
        have e9 : y 9 = (v1 s F na L.length nc ca C.length cc la O.length lc) 9 := hR.f 9 (by omega) (hd { on := 9, ground := .data } (by simp) rfl)
        simp only [v1] at e9
        refine wpOp_step rfl (fun K hK => ?_)
        go_simp
        refine (hCl _ kc).mono ?_
        rintro e wS ⟨v, rfl, KS, hS⟩
        exact hK _ _ (RGI.next hR (h13 (by omega)) 10 (by omega) hl hS.kp v ⟨KS, hS.base kc⟩ (by omega) (by simp [updV, e9]))
      | 11, _ =>
        simp only [List.getElem?_toArray, List.getElem?_cons_succ, List.getElem?_cons_zero, Option.some.injEq] at ho
        subst ho
        have e1 : y 1 = (v1 s F na L.length nc ca C.length cc la O.length lc) 1 := hR.f 1 (by omega) (hd { on := 1, ground := .data } (by simp) rfl)
        simp only [v1] at e1
        have g4 := hd { on := 4, ground := .data } (by simp) rfl
        have g7 := hd { on := 7, ground := .data } (by simp) rfl
        have g10 := hd { on := 10, ground := .data } (by simp) rfl
        obtain ⟨K4, f4⟩ := hR.f 4 (by omega) g4
        obtain ⟨K7, f7⟩ := hR.f 7 (by omega) g7
        obtain ⟨K10, f10⟩ := hR.f 10 (by omega) g10
        obtain ⟨a4, c4, e4, -, -⟩ := f4.rd
        obtain ⟨a7, c7, e7, -, -⟩ := f7.rd
        obtain ⟨a10, c10, e10, -, -⟩ := f10.rd
        clear f4 f7 f10
        refine wpOp_step rfl (fun K hK => ?_)
        go_simp
        exact hK _ _ (RGI.next hR (h13 (by omega)) 11 (by omega) hl (Keep.refl wc) _ rfl (fun _ => ⟨g4, g7, g10⟩) (by simp [updV, e1, e4, e7, e10]))
      | 12, _ =>
        simp only [List.getElem?_toArray, List.getElem?_cons_succ, List.getElem?_cons_zero, Option.some.injEq] at ho
        subst ho
        refine wpOp_step rfl (fun K hK => ?_)
        go_simp
        exact hK _ _ ⟨⟨_, by simp [updV], hR.box hl (h13 (by omega))⟩, fun h => by rw [getD_sets _ _ _ (by omega), h13 (by omega)] at h; cases h⟩
      | 13, _ =>
        simp only [List.getElem?_toArray, List.getElem?_cons_succ, List.getElem?_cons_zero, Option.some.injEq] at ho
        subst ho
        have g0 := hd { on := 0, ground := .phase } (by simp) rfl
        have g1 := hd { on := 1, ground := .phase } (by simp) rfl
        have g2 := hd { on := 2, ground := .phase } (by simp) rfl
        have g3 := hd { on := 3, ground := .phase } (by simp) rfl
        have g4 := hd { on := 4, ground := .phase } (by simp) rfl
        have g5 := hd { on := 5, ground := .phase } (by simp) rfl
        have g6 := hd { on := 6, ground := .phase } (by simp) rfl
        have g7 := hd { on := 7, ground := .phase } (by simp) rfl
        have g8 := hd { on := 8, ground := .phase } (by simp) rfl
        have g9 := hd { on := 9, ground := .phase } (by simp) rfl
        have g10 := hd { on := 10, ground := .phase } (by simp) rfl
        have g11 := hd { on := 11, ground := .phase } (by simp) rfl
        have g12 := hd { on := 12, ground := .phase } (by simp) rfl
        obtain ⟨p, ep, hp, hz, -⟩ := hR.bx g12
        have z := hz hl
        obtain ⟨K4, f4⟩ := hR.f 4 (by omega) g4
        obtain ⟨K7, f7⟩ := hR.f 7 (by omega) g7
        obtain ⟨K10, f10⟩ := hR.f 10 (by omega) g10
        have e11 : y 11 = .agg #[.int .i64 F, y 4, y 7, y 10] := hR.f 11 (by omega) g11
        obtain ⟨a4, c4, e4, -, -⟩ := f4.rd
        obtain ⟨a7, c7, e7, -, -⟩ := f7.rd
        obtain ⟨a10, c10, e10, -, -⟩ := f10.rd
        rw [e4, e7, e10] at e11
        unfold zbx at z
        have z0 := cell_of_row _ _ 0 _ 33 (0, 0) z
        have u0 := frozen_of_row _ _ 0 _ 33 z
        have z1 := cell_of_row _ _ 1 _ 33 (0, 0) z
        have u1 := frozen_of_row _ _ 1 _ 33 z
        have z2 := cell_of_row _ _ 2 _ 33 (0, 0) z
        have u2 := frozen_of_row _ _ 2 _ 33 z
        have z3 := cell_of_row _ _ 3 _ 33 (0, 0) z
        have u3 := frozen_of_row _ _ 3 _ 33 z
        simp only [List.getElem?_toArray, List.getElem?_cons_zero, List.getElem?_cons_succ] at z0 z1 z2 z3
        obtain ⟨F2, F1⟩ := store4 wc p 33 _ _ _ _ (.int .i64 F) (.slice a4 L.length c4) (.slice a7 C.length c7) (.slice a10 O.length c10) z
        have hk4 := (((kc.setCell (p := ⟨p, 0, none⟩) hp (.int .i64 F)).setCell (p := ⟨p, 1, none⟩) hp (.slice a4 L.length c4)).setCell (p := ⟨p, 2, none⟩) hp (.slice a7 C.length c7)).setCell (p := ⟨p, 3, none⟩) hp (.slice a10 O.length c10)
        have hRn := hR.store hp (by unfold zbx; exact z) F2 F1 hk4 g12 ep e4 e7 e10
        replace z : Hid _ := z
        replace F2 : Hid _ := F2
        replace F1 : Hid _ := F1
        replace hRn : Hid _ := hRn
        clear f4 f7 f10 hk4
        refine wpOp_step rfl (fun K hK => ?_)
        go_simp
        refine hK _ _ ⟨⟨y, ?_, hRn.out⟩, fun _ j hj => ?_⟩
        · simp [ep, e11, e4, e7, e10]
        · rw [getD_sets _ _ _ (by omega)]
          match j, hj with
          | 0, _ => exact g0
          | 1, _ => exact g1
          | 2, _ => exact g2
          | 3, _ => exact g3
          | 4, _ => exact g4
          | 5, _ => exact g5
          | 6, _ => exact g6
          | 7, _ => exact g7
          | 8, _ => exact g8
          | 9, _ => exact g9
          | 10, _ => exact g10
          | 11, _ => exact g11
          | 12, _ => exact g12
          | n + 13, hn => exact absurd hn (by omega)
      | n + 14, hn => exact absurd hn (by show ¬ n + 14 < 14; omega)
    · rintro l A wc ⟨⟨y, rfl, hR⟩, hc13⟩ hr
      have hs := hR.sz
      have g0 : l.getD 0 false = true := ready_nil hr (i := 0) rfl hs (by intro e he hb; simp at he)
      have g1 : l.getD 1 false = true := ready_nil hr (i := 1) rfl hs (by intro e he hb; simp at he; subst he; assumption)
      have g2 : l.getD 2 false = true := ready_nil hr (i := 2) rfl hs (by intro e he hb; simp at he)
      have g3 : l.getD 3 false = true := ready_nil hr (i := 3) rfl hs (by intro e he hb; simp at he; subst he; assumption)
      have g4 : l.getD 4 false = true := ready_nil hr (i := 4) rfl hs (by intro e he hb; simp at he; subst he; assumption)
      have g5 : l.getD 5 false = true := ready_nil hr (i := 5) rfl hs (by intro e he hb; simp at he)
      have g6 : l.getD 6 false = true := ready_nil hr (i := 6) rfl hs (by intro e he hb; simp at he; subst he; assumption)
      have g7 : l.getD 7 false = true := ready_nil hr (i := 7) rfl hs (by intro e he hb; simp at he; rcases he with rfl | rfl <;> assumption)
      have g8 : l.getD 8 false = true := ready_nil hr (i := 8) rfl hs (by intro e he hb; simp at he)
      have g9 : l.getD 9 false = true := ready_nil hr (i := 9) rfl hs (by intro e he hb; simp at he; subst he; assumption)
      have g10 : l.getD 10 false = true := ready_nil hr (i := 10) rfl hs (by intro e he hb; simp at he; rcases he with rfl | rfl <;> assumption)
      have g11 : l.getD 11 false = true := ready_nil hr (i := 11) rfl hs (by intro e he hb; simp at he; rcases he with rfl | rfl | rfl | rfl <;> assumption)
      have g12 : l.getD 12 false = true := ready_nil hr (i := 12) rfl hs (by intro e he hb; simp at he)
      have g13 : l.getD 13 false = true := ready_nil hr (i := 13) rfl hs (by intro e he hb; simp at he; rcases he with rfl | rfl | rfl | rfl | rfl | rfl | rfl | rfl | rfl | rfl | rfl | rfl | rfl | rfl | rfl | rfl <;> assumption)
      obtain ⟨p, ep, hp, -, hz⟩ := hR.bx g12
      obtain ⟨K4, f4⟩ := hR.f 4 (by omega) g4
      obtain ⟨K7, f7⟩ := hR.f 7 (by omega) g7
      obtain ⟨K10, f10⟩ := hR.f 10 (by omega) g10
      exact ⟨rfl, y, p, K4, K7, K10, rfl, ep, hR.kp, f4, f7, f10, hz g13⟩
  · rintro e a' w2 ⟨rfl, y, p, K1', K2', K3', rfl, e12, k2, oL, oC, oO, tp⟩
    obtain ⟨a4, c4, e4, hc4, r4⟩ := oL.rd
    obtain ⟨a7, c7, e7, hc7, r7⟩ := oC.rd
    obtain ⟨a10, c10, e10, hc10, r10⟩ := oO.rd
    rw [e4, e7, e10] at tp
    have rn2 := rn1.keep k2
    have rc2 := rc1.keep k2
    have rl2 := rl1.keep k2
    have b0 := k2.cell b0
    have b1 := k2.cell b1
    have b2 := k2.cell b2
    have b3 := k2.cell b3
    have d0 := cell_of_row _ _ 0 _ 33 (0, 0) tp
    have d1 := cell_of_row _ _ 1 _ 33 (0, 0) tp
    have d2 := cell_of_row _ _ 2 _ 33 (0, 0) tp
    have d3 := cell_of_row _ _ 3 _ 33 (0, 0) tp
    simp only [List.getElem?_toArray, List.getElem?_cons_zero, List.getElem?_cons_succ] at d0 d1 d2 d3
    have h15 := fun (wx : World) (k : Keep w2 wx) => First_any F a4 L c4 a7 C.length c7 a10 O.length c10 x wx hL (r4.keep k)
    have h16 := fun (wx : World) (k : Keep w2 wx) => rFirst_any F na L nc ca C.length cc la O.length lc x wx hL (rn2.keep k)
    have h17 := fun (wx : World) (k : Keep w2 wx) => Work_any F a4 L c4 a7 C.length c7 a10 O.length c10 x wx hL hC hO (r4.keep k)
    have h18 := fun (wx : World) (k : Keep w2 wx) => rWork_any F na L nc ca C.length cc la O.length lc x wx hL hC hO (rn2.keep k)
    have h20 := fun (wx : World) (k : Keep w2 wx) => False_any F a4 L c4 a7 C c7 a10 O c10 x wx hL hC hO hc4 (r4.keep k) (r7.keep k) (r10.keep k)
    have h21 := fun (wx : World) (k : Keep w2 wx) => rFalse_any F na L nc ca C cc la O lc x wx hL hC hO hnc hcp (rn2.keep k) (rc2.keep k) (rl2.keep k)
    have h22 := fun (wx : World) (k : Keep w2 wx) => Groups_any F a4 L c4 a7 C.length c7 a10 O.length c10 wx hL (r4.keep k)
    have h23 := fun (wx : World) (k : Keep w2 wx) => rGroups_any F na L nc ca C.length cc la O.length lc wx hL (rn2.keep k)
    have hfn : (fls L C O x).length ≤ 4194304 := by
      unfold fls
      split
      · omega
      · rw [List.length_append]
        have h1 := List.length_take_le (fst L x) L
        have h2 : (chs C x).length ≤ C.length := List.length_filter_le _ _
        have h3 : (L.take (fst L x)).length ≤ L.length := by rw [List.length_take]; omega
        omega
    have hgl := grp_len L L.length
    generalize fst L x = fv at *
    generalize wrk L C.length O.length x = wv at *
    generalize fls L C O x = fl at *
    generalize grp L L.length = gl at *
    have hS := fun (wx : World) (k : Keep w2 wx) (a b : Option Addr) (ca cb : Nat) (h1 : RdC wx a fl) (h2 : RdC wx b fl) => Same_eq a b ca cb fl wx hfn h1 h2
    unfold lst at h15 h16 h17 h18 h20 h21 h22 h23
    dsimp only
    rw [e12, e4, e7, e10]
    have k02 := k0.trans k2
    clear oL oC oO tp hCn hCc hCl rn1 rc1 rl1 k0
    generalize y 0 = q0
    generalize y 1 = q1
    generalize y 2 = q2
    generalize y 3 = q3
    generalize y 5 = q5
    generalize y 6 = q6
    generalize y 8 = q8
    generalize y 9 = q9
    generalize y 11 = q11
    go_simp
    go_wp2_with fail
    have KD := (Keep.refl w2).drew
    have TKD := mk9 KD (KD.cell d0) (KD.cell d1) (KD.cell d2) (KD.cell d3) (KD.cell b0) (KD.cell b1) (KD.cell b2) (KD.cell b3)
    go_region_held3 (fun wx => Keep w2 wx ∧ wx.cell? ⟨p, 0, none⟩ = some (Value.int IntKind.i64 F) ∧ wx.cell? ⟨p, 1, none⟩ = some (Value.slice a4 L.length c4) ∧ wx.cell? ⟨p, 2, none⟩ = some (Value.slice a7 C.length c7) ∧ wx.cell? ⟨p, 3, none⟩ = some (Value.slice a10 O.length c10) ∧ wx.cell? ⟨s, 0, none⟩ = some (Value.int IntKind.i64 F) ∧ wx.cell? ⟨s, 1, none⟩ = some (Value.slice na L.length nc) ∧ wx.cell? ⟨s, 2, none⟩ = some (Value.slice ca C.length cc) ∧ wx.cell? ⟨s, 3, none⟩ = some (Value.slice la O.length lc)) (first | with_reducible exact TKD | with_reducible exact TK7 | with_reducible exact TK6 | with_reducible exact TK5 | with_reducible exact TK4 | with_reducible exact TK3 | with_reducible exact TK2 | with_reducible exact TK1) (first
      | (go_at_call 19; refine (hS _ K6 _ _ _ _ ra.1 ra.2).mono ?_; rintro e wz19 ⟨rfl, j7⟩; have K7 := K6.trans j7; have TK7 := mk9 K7 (K7.cell d0) (K7.cell d1) (K7.cell d2) (K7.cell d3) (K7.cell b0) (K7.cell b1) (K7.cell b2) (K7.cell b3))
      | (go_at_call 21; refine (h21 _ K5).mono ?_; rintro e wz21 ⟨vb, rfl, Kb, oB⟩; have K6 := K5.trans oB.kp; obtain ⟨ab, cb', rfl, -, rb⟩ := oB.rd; have ra := And.intro (ra0.keep oB.kp) rb; have TK6 := mk9 K6 (K6.cell d0) (K6.cell d1) (K6.cell d2) (K6.cell d3) (K6.cell b0) (K6.cell b1) (K6.cell b2) (K6.cell b3))
      | (go_at_call 20; refine (h20 _ K4).mono ?_; rintro e wz20 ⟨va, rfl, Ka, oA⟩; have K5 := K4.trans oA.kp; obtain ⟨aa, ca', rfl, -, ra0⟩ := oA.rd; have TK5 := mk9 K5 (K5.cell d0) (K5.cell d1) (K5.cell d2) (K5.cell d3) (K5.cell b0) (K5.cell b1) (K5.cell b2) (K5.cell b3))
      | (go_at_call 18; refine (h18 _ K3).mono ?_; rintro e wz18 ⟨rfl, j4⟩; have K4 := K3.trans j4; have TK4 := mk9 K4 (K4.cell d0) (K4.cell d1) (K4.cell d2) (K4.cell d3) (K4.cell b0) (K4.cell b1) (K4.cell b2) (K4.cell b3))
      | (go_at_call 17; refine (h17 _ K2).mono ?_; rintro e wz17 ⟨rfl, j3⟩; have K3 := K2.trans j3; have TK3 := mk9 K3 (K3.cell d0) (K3.cell d1) (K3.cell d2) (K3.cell d3) (K3.cell b0) (K3.cell b1) (K3.cell b2) (K3.cell b3))
      | (go_at_call 16; refine (h16 _ K1).mono ?_; rintro e wz16 ⟨rfl, j2⟩; have K2 := K1.trans j2; have TK2 := mk9 K2 (K2.cell d0) (K2.cell d1) (K2.cell d2) (K2.cell d3) (K2.cell b0) (K2.cell b1) (K2.cell b2) (K2.cell b3))
      | (go_at_call 15; refine (h15 _ KD).mono ?_; rintro e wz15 ⟨rfl, j1⟩; have K1 := KD.trans j1; have TK1 := mk9 K1 (K1.cell d0) (K1.cell d1) (K1.cell d2) (K1.cell d3) (K1.cell b0) (K1.cell b1) (K1.cell b2) (K1.cell b3)))
    go_simp
    clear TKD TK1 TK2 TK3 TK4 TK5 TK6 TK7 h15 h16 h17 h18 h20 h21 hS ra ra0 rb oA oB
    have d0 := K7.cell d0
    have d1 := K7.cell d1
    have d2 := K7.cell d2
    have d3 := K7.cell d3
    have b0 := K7.cell b0
    have b1 := K7.cell b1
    have b2 := K7.cell b2
    have b3 := K7.cell b3
    go_wp2_with fail
    refine (h22 _ K7).mono ?_
    rintro e wA ⟨vg, rfl, oG, kA⟩
    have KA := K7.trans kA
    have d0 := kA.cell d0
    have d1 := kA.cell d1
    have d2 := kA.cell d2
    have d3 := kA.cell d3
    have b0 := kA.cell b0
    have b1 := kA.cell b1
    have b2 := kA.cell b2
    have b3 := kA.cell b3
    go_wp2_with fail
    refine (h23 _ KA).mono ?_
    rintro e wB ⟨vh, rfl, oH, kB⟩
    have KB := KA.trans kB
    have d0 := kB.cell d0
    have d1 := kB.cell d1
    have d2 := kB.cell d2
    have d3 := kB.cell d3
    have b0 := kB.cell b0
    have b1 := kB.cell b1
    have b2 := kB.cell b2
    have b3 := kB.cell b3
    obtain ⟨ag, cg, rfl, -, hrg⟩ := (oG.keep kB).shape
    obtain ⟨ah, ch, rfl, -, hrh⟩ := oH.shape
    have hBt := fun (x : Nat) (wx : World) => f64bits x wx
    clear oG oH h22 h23
    go_wp2_with fail
    go_loopw [8] (fun iv wr => ∃ k : Nat, k ≤ gl.length ∧ iv = .int .i64 k ∧ Keep wB wr) (fun iv _ => gl.length - (intOf iv).toNat)
    case atStart => exact ⟨0, by omega, rfl, Keep.refl wB⟩
    case round =>
      obtain ⟨k, hk, rfl, kw⟩ := hrel
      by_cases hkl : k < gl.length
      · have hkc : (k : Int) < (gl.length : Int) := by omega
        obtain ⟨g1, rfl, hu⟩ := hrg k hkl
        obtain ⟨g2, rfl, hv⟩ := hrh k hkl
        have u0 := kw.cell (hu 0 _ (by omega) rfl)
        have u1 := kw.cell (hu 1 _ (by omega) rfl)
        have u2 := kw.cell (hu 2 _ (by omega) rfl)
        have t0 := kw.cell (hv 0 _ (by omega) rfl)
        have t1 := kw.cell (hv 1 _ (by omega) rfl)
        have t2 := kw.cell (hv 2 _ (by omega) rfl)
        simp only [Nat.add_zero] at u0 t0
        generalize gl.getD k gt0 = gg at *
        clear hu hv hrg hrh
        go_wp2_with fail
        go_quiet (fail)
        go_simp
        go_wp2_with fail
        go_roundw
        case rel => exact ⟨k + 1, by omega, by go_num, kw.drewN _⟩
        case measure => simp [intOf]; omega
      · have hkc : ¬ (k : Int) < (gl.length : Int) := by omega
        have d0 := kw.cell d0
        have d1 := kw.cell d1
        have d2 := kw.cell d2
        have d3 := kw.cell d3
        have b0 := kw.cell b0
        have b1 := kw.cell b1
        have b2 := kw.cell b2
        have b3 := kw.cell b3
        have KW := KB.trans kw
        obtain ⟨X2, hX2, kX, sX, r0, r1⟩ := boxes2n wr #[Value.int IntKind.i64 F, Value.slice a4 L.length c4, Value.slice a7 C.length c7, Value.slice a10 O.length c10] #[Value.int IntKind.i64 F, Value.slice na L.length nc, Value.slice ca C.length cc, Value.slice la O.length lc] 33 33
        have x0 := cell_of_row _ _ 0 _ 33 (0, 0) r0
        have x1 := cell_of_row _ _ 1 _ 33 (0, 0) r0
        have x2 := cell_of_row _ _ 2 _ 33 (0, 0) r0
        have x3 := cell_of_row _ _ 3 _ 33 (0, 0) r0
        have y0 := cell_of_row _ _ 0 _ 33 (0, 0) r1
        have y1 := cell_of_row _ _ 1 _ 33 (0, 0) r1
        have y2 := cell_of_row _ _ 2 _ 33 (0, 0) r1
        have y3 := cell_of_row _ _ 3 _ 33 (0, 0) r1
        simp only [List.getElem?_toArray, List.getElem?_cons_zero, List.getElem?_cons_succ] at x0 x1 x2 x3 y0 y1 y2 y3
        have KX := KW.trans kX
        have hAl := Alike_one F L C O wr.heap.size a4 c4 a7 c7 a10 c10 (wr.heap.size + 1) na nc ca cc la lc X2 (by omega) (by omega) (by omega) x0 x1 x2 x3 y0 y1 y2 y3 (r4.keep KX) (r7.keep KX) (r10.keep KX) (rn2.keep KX) (rc2.keep KX) (rl2.keep KX)
        replace hX2 : Hid _ := hX2
        have hbs : s < wr.heap.size := World.block_lt_of_cell? _ _ b0
        clear x0 x1 x2 x3 y0 y1 y2 y3 r0 r1
        go_wp2_with fail
        rw [hX2.out]
        refine hAl.mono ?_
        rintro e wE ⟨rfl, kE⟩
        go_wp2_with fail
        go_ret
        exact ⟨rfl, k02.trans (KX.trans kE)⟩
end Go.Proofs.Ytaogjiffnebnkaa
