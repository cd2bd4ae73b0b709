import Derived.Test.YtieheijcfiijmaaDoorProg
import Derived.Test.YtieheijcfiijmaaDoorZY2
import Derived.Deep.RegionLaw
import Derived.Shelf.Abstract
import Derived.Below
import Derived.WalkKit
import Derived.WalkSpells
import Derived.WalkLawsBesides
import Derived.Deep.Draws
import Derived.Deep.QuietTactic
import Derived.BigQuiet
import Derived.Laws.Externs
import Derived.Laws.CopyOwn
import Derived.BigRegion
import Derived.Laws.BitsAll
import Derived.Deep.RegionHeld3
import Derived.Deep.Cut
set_option linter.unusedVariables false
set_option linter.unusedSimpArgs false
namespace Go.Proofs.YtieheijcfiijmaaDoor
open Go.RowKit Go.Shelf
attribute [local go_sem] run_store_float
set_option maxRecDepth 100000 in
theorem groupFrom_any (b o c : Nat) (n k m : Nat) (w : World) (hk : k < n) (hn : n ≤ c) (hc : n ≤ 17592186044416) (hm : m = min (k + 8) n) :
    Calls Tryd.prog 12 #[.slice (some ⟨b, o, none⟩) n c, .int .i64 (k : Nat)] w fun e w' => e = .returned (.slice (some ⟨b, o + k, none⟩) (m - k) (c - k)) ∧ w' = w := by
  replace hm : Hid _ := hm
  go_enter Tryd.func12, Tryd.ntmps12
  go_wp2_with fail
  · go_ret
    refine ⟨?_, rfl⟩
    have e : m - k = n - k := by have := hm.out; omega
    rw [e]; rfl
  · go_ret
    refine ⟨?_, rfl⟩
    have e : m - k = ((k : Int) + 8).toNat - k := by have := hm.out; omega
    rw [e]; rfl
/-- The eight numbers of a lane, as far as they are laid. -/
def xsK (X : Nat → Nat) (k : Nat) : List Nat := (List.range 8).map (fun i => if i < k then X i else 0)
theorem xsK_len (X : Nat → Nat) (k : Nat) : (xsK X k).length = 8 := by simp [xsK]
theorem xsK_get (X : Nat → Nat) (k i : Nat) (hi : i < 8) : (xsK X k).getD i 0 = if i < k then X i else 0 := by simp [xsK, List.getD, hi]
theorem xsK_set (X : Nat → Nat) (k : Nat) (hk : k < 8) : (xsK X k).set k (X k) = xsK X (k + 1) := by
  apply List.ext_getElem
  · simp [xsK]
  · intro i h1 h2
    simp only [xsK, List.getElem_set, List.getElem_map, List.getElem_range]
    by_cases e : k = i
    · subst e; simp
    · have : (i < k + 1) = (i < k) := by apply propext; omega
      simp [e, this]
/-- A block that is numbers alone, of element type T. -/
def RowF (T : Nat) (w : World) (g : Nat) (l : List Nat) : Prop := w.heap[g]? = some (.cells (UF l).toArray T (0, 0))
theorem RowF.cell {T : Nat} {w : World} {g : Nat} {l : List Nat} (h : RowF T w g l) (j : Nat) (hj : j < l.length) : w.cell? ⟨g, j, none⟩ = some (.float .f64 (l.getD j 0)) := by
  rw [cell_of_row w g j _ T (0, 0) h]; simpa using UF_get l j hj
theorem RowF.set {T : Nat} {w : World} {g : Nat} {l : List Nat} (h : RowF T w g l) (j : Nat) (x : Nat) : RowF T (w.setCell ⟨g, j, none⟩ (.float .f64 x)) g (l.set j x) := by
  have := heap_setCell_same w g j _ T (.float .f64 x) h
  unfold RowF
  rw [this]
  simp [UF, List.map_set]
theorem RowF.keep {T : Nat} {w w' : World} {g : Nat} {l : List Nat} (h : RowF T w g l) (k : Keep w w') : RowF T w' g l := by
  unfold RowF; rw [k.block g (Array.getElem?_eq_some_iff.1 h).1]; exact h
set_option maxRecDepth 100000 in
set_option maxHeartbeats 1000000 in
theorem lane_any (b o c f : Nat) (V : List (List Nat)) (w : World) (h0 : 0 < V.length) (hl : V.length ≤ 17592186044416) (hr : RdS 1 w (some ⟨b, o, none⟩) V) (hf : ∀ j, j < V.length → f < (V.getD j []).length) :
    Calls Tryd.prog 14 #[.slice (some ⟨b, o, none⟩) V.length c, .int .i64 (f : Nat)] w fun e w' => e = .returned (LV (fun i => (V.getD (min i (V.length - 1)) []).getD f 0)) ∧ Keep w w' := by
  obtain ⟨X, hX⟩ : ∃ X : Nat → Nat, X = fun i => (V.getD (min i (V.length - 1)) []).getD f 0 := ⟨_, rfl⟩
  have hXk : Hid (∀ i, X i = (V.getD (min i (V.length - 1)) []).getD f 0) := fun i => by rw [hX]
  rw [← hX]
  clear hX
  obtain ⟨p, hp⟩ : ∃ p, V.length = p + 1 := ⟨V.length - 1, by omega⟩
  have HP : Hid (V.length = p + 1) := hp
  have hpl : p + 1 ≤ 17592186044416 := by omega
  rw [hp]
  clear hp hl h0
  have z8 : (UF (xsK X 0)).toArray = #[.float .f64 0, .float .f64 0, .float .f64 0, .float .f64 0, .float .f64 0, .float .f64 0, .float .f64 0, .float .f64 0] := by simp [UF, xsK, List.range, List.range.loop]
  have hst : RowF 59 ((w.alloc (Obj.cells (UF (xsK X 0)).toArray 59)).alloc (Obj.cells (UF (xsK X 0)).toArray 59)) w.heap.size (xsK X 0) := (Below.heap_alloc _ _ _ (by simp)).trans (heap_alloc_new w _)
  have hst1 : RowF 59 ((w.alloc (Obj.cells (UF (xsK X 0)).toArray 59)).alloc (Obj.cells (UF (xsK X 0)).toArray 59)) (w.heap.size + 1) (xsK X 0) := by
    have := heap_alloc_new (w.alloc (Obj.cells (UF (xsK X 0)).toArray 59)) (Obj.cells (UF (xsK X 0)).toArray 59)
    rw [World.size_alloc] at this
    exact this
  rw [z8] at hst hst1
  replace hst : Hid _ := hst
  replace hst1 : Hid _ := hst1
  clear z8
  go_enter Tryd.func14, Tryd.ntmps14
  go_wp2_with fail
  go_loopw [7] (fun i wr => ∃ k : Nat, k ≤ 8 ∧ i = .int .i64 k ∧ Keep w wr ∧ RowF 59 wr w.heap.size (xsK X 0) ∧ RowF 59 wr (w.heap.size + 1) (xsK X k)) (fun i _ => 8 - (intOf i).toNat)
  case atStart => exact ⟨0, by omega, rfl, ((Keep.refl w).alloc _).alloc _, hst.out, hst1.out⟩
  case round =>
    obtain ⟨k, hk, rfl, kw, r0, r1⟩ := hrel
    by_cases hkl : k < 8
    · have hkc : (k : Int) < 8 := by omega
      have cx := r1.cell k (by rw [xsK_len]; exact hkl)
      have fz := frozen_of_row wr (w.heap.size + 1) k _ 59 r1
      have HS : Hid (RowF 59 (wr.setCell ⟨w.heap.size + 1, k, none⟩ (.float .f64 (X k))) (w.heap.size + 1) (xsK X (k + 1))) := by
        have := r1.set k (X k)
        rw [xsK_set X k hkl] at this
        exact this
      have HS0 : Hid (RowF 59 (wr.setCell ⟨w.heap.size + 1, k, none⟩ (.float .f64 (X k))) w.heap.size (xsK X 0)) := by
        show _ = _
        rw [neq_set _ _ _ _ _ (by omega)]
        exact r0
      have HX := hXk.out k
      by_cases hpk : p < k
      · have hpc : (p : Int) < (k : Int) := by omega
        have hm : min k (V.length - 1) = p := by have := HP.out; omega
        rw [hm] at HX
        obtain ⟨b1, o1, va, n, vc, e1, c1, hn, -, hrf, -⟩ := (hr.keep kw) p (by have := HP.out; omega)
        simp only [Option.some.injEq, Addr.mk.injEq, and_true] at e1
        obtain ⟨rfl, rfl⟩ := e1
        have hfp := hf p (by have := HP.out; omega)
        obtain ⟨b3, o3, rfl, c3⟩ := hrf f hfp
        have hfc : (f : Int) < (n : Int) := by omega
        rw [← HX] at c3
        clear HX hm hn hfp
        generalize X k = x at *
        go_wp2_with fail
        go_roundw
        case rel => exact ⟨k + 1, by omega, by go_num, kw.setCell (by simp) _, HS0.out, HS.out⟩
        case measure => simp [intOf]; omega
      · have hpc : ¬ (p : Int) < (k : Int) := by omega
        have hm : min k (V.length - 1) = k := by have := HP.out; omega
        rw [hm] at HX
        obtain ⟨b1, o1, va, n, vc, e1, c1, hn, -, hrf, -⟩ := (hr.keep kw) k (by have := HP.out; omega)
        simp only [Option.some.injEq, Addr.mk.injEq, and_true] at e1
        obtain ⟨rfl, rfl⟩ := e1
        have hfp := hf k (by have := HP.out; omega)
        obtain ⟨b3, o3, rfl, c3⟩ := hrf f hfp
        have hfc : (f : Int) < (n : Int) := by omega
        rw [← HX] at c3
        clear HX hm hn hfp
        generalize X k = x at *
        go_wp2_with fail
        go_roundw
        case rel => exact ⟨k + 1, by omega, by go_num, kw.setCell (by simp) _, HS0.out, HS.out⟩
        case measure => simp [intOf]; omega
    · have hkc : ¬ (k : Int) < 8 := by omega
      obtain rfl : k = 8 := by omega
      have c0 : wr.cell? ⟨w.heap.size + 1, 0, none⟩ = some (.float .f64 (X 0)) := by rw [r1.cell 0 (by rw [xsK_len]; omega), xsK_get X 8 0 (by omega), if_pos (by omega)]
      have c1 : wr.cell? ⟨w.heap.size + 1, 1, none⟩ = some (.float .f64 (X 1)) := by rw [r1.cell 1 (by rw [xsK_len]; omega), xsK_get X 8 1 (by omega), if_pos (by omega)]
      have c2 : wr.cell? ⟨w.heap.size + 1, 2, none⟩ = some (.float .f64 (X 2)) := by rw [r1.cell 2 (by rw [xsK_len]; omega), xsK_get X 8 2 (by omega), if_pos (by omega)]
      have c3 : wr.cell? ⟨w.heap.size + 1, 3, none⟩ = some (.float .f64 (X 3)) := by rw [r1.cell 3 (by rw [xsK_len]; omega), xsK_get X 8 3 (by omega), if_pos (by omega)]
      have c4 : wr.cell? ⟨w.heap.size + 1, 4, none⟩ = some (.float .f64 (X 4)) := by rw [r1.cell 4 (by rw [xsK_len]; omega), xsK_get X 8 4 (by omega), if_pos (by omega)]
      have c5 : wr.cell? ⟨w.heap.size + 1, 5, none⟩ = some (.float .f64 (X 5)) := by rw [r1.cell 5 (by rw [xsK_len]; omega), xsK_get X 8 5 (by omega), if_pos (by omega)]
      have c6 : wr.cell? ⟨w.heap.size + 1, 6, none⟩ = some (.float .f64 (X 6)) := by rw [r1.cell 6 (by rw [xsK_len]; omega), xsK_get X 8 6 (by omega), if_pos (by omega)]
      have c7 : wr.cell? ⟨w.heap.size + 1, 7, none⟩ = some (.float .f64 (X 7)) := by rw [r1.cell 7 (by rw [xsK_len]; omega), xsK_get X 8 7 (by omega), if_pos (by omega)]
      have d0 := r0.cell 0 (by rw [xsK_len]; omega)
      have f0 := frozen_of_row wr w.heap.size 0 _ 59 r0
      have d1 := r0.cell 1 (by rw [xsK_len]; omega)
      have f1 := frozen_of_row wr w.heap.size 1 _ 59 r0
      have d2 := r0.cell 2 (by rw [xsK_len]; omega)
      have f2 := frozen_of_row wr w.heap.size 2 _ 59 r0
      have d3 := r0.cell 3 (by rw [xsK_len]; omega)
      have f3 := frozen_of_row wr w.heap.size 3 _ 59 r0
      have d4 := r0.cell 4 (by rw [xsK_len]; omega)
      have f4 := frozen_of_row wr w.heap.size 4 _ 59 r0
      have d5 := r0.cell 5 (by rw [xsK_len]; omega)
      have f5 := frozen_of_row wr w.heap.size 5 _ 59 r0
      have d6 := r0.cell 6 (by rw [xsK_len]; omega)
      have f6 := frozen_of_row wr w.heap.size 6 _ 59 r0
      have d7 := r0.cell 7 (by rw [xsK_len]; omega)
      have f7 := frozen_of_row wr w.heap.size 7 _ 59 r0
      have H0 : Hid (RowF 59 wr w.heap.size (xsK X 0)) := r0
      clear r0 r1 hst hst1
      go_wp2_with fail
      have hR := ((((((((H0.out.set 0 (X 0)).set 1 (X 1)).set 2 (X 2)).set 3 (X 3)).set 4 (X 4)).set 5 (X 5)).set 6 (X 6)).set 7 (X 7))
      have kF := ((((((((kw.setCell (p := ⟨w.heap.size, 0, none⟩) (Nat.le_refl _) (.float .f64 (X 0))).setCell (p := ⟨w.heap.size, 1, none⟩) (Nat.le_refl _) (.float .f64 (X 1))).setCell (p := ⟨w.heap.size, 2, none⟩) (Nat.le_refl _) (.float .f64 (X 2))).setCell (p := ⟨w.heap.size, 3, none⟩) (Nat.le_refl _) (.float .f64 (X 3))).setCell (p := ⟨w.heap.size, 4, none⟩) (Nat.le_refl _) (.float .f64 (X 4))).setCell (p := ⟨w.heap.size, 5, none⟩) (Nat.le_refl _) (.float .f64 (X 5))).setCell (p := ⟨w.heap.size, 6, none⟩) (Nat.le_refl _) (.float .f64 (X 6))).setCell (p := ⟨w.heap.size, 7, none⟩) (Nat.le_refl _) (.float .f64 (X 7)))
      generalize ((((((((wr.setCell ⟨w.heap.size, 0, none⟩ (.float .f64 (X 0))).setCell ⟨w.heap.size, 1, none⟩ (.float .f64 (X 1))).setCell ⟨w.heap.size, 2, none⟩ (.float .f64 (X 2))).setCell ⟨w.heap.size, 3, none⟩ (.float .f64 (X 3))).setCell ⟨w.heap.size, 4, none⟩ (.float .f64 (X 4))).setCell ⟨w.heap.size, 5, none⟩ (.float .f64 (X 5))).setCell ⟨w.heap.size, 6, none⟩ (.float .f64 (X 6))).setCell ⟨w.heap.size, 7, none⟩ (.float .f64 (X 7))) = wf at *
      have hE : ∀ i, i < 8 → wf.cell? ⟨w.heap.size, i, none⟩ = some (.float .f64 (X i)) := by
        intro i hi
        rw [hR.cell i (by simp only [List.length_set, xsK_len]; exact hi)]
        have : i = 0 ∨ i = 1 ∨ i = 2 ∨ i = 3 ∨ i = 4 ∨ i = 5 ∨ i = 6 ∨ i = 7 := by omega
        rcases this with rfl | rfl | rfl | rfl | rfl | rfl | rfl | rfl <;> simp [List.getD, List.getElem?_set, xsK_len]
      have e0 := hE 0 (by omega)
      have e1 := hE 1 (by omega)
      have e2 := hE 2 (by omega)
      have e3 := hE 3 (by omega)
      have e4 := hE 4 (by omega)
      have e5 := hE 5 (by omega)
      have e6 := hE 6 (by omega)
      have e7 := hE 7 (by omega)
      exact bodyPost_ret (v := LV X) (by simp [results, Tryd.results14, go_sem, e0, e1, e2, e3, e4, e5, e6, e7]) rfl ⟨rfl, kF⟩
end Go.Proofs.YtieheijcfiijmaaDoor
