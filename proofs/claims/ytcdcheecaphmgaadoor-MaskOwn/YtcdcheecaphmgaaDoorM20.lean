import Derived.Test.YtcdcheecaphmgaaDoorM19
import Derived.Test.YtcdcheecaphmgaaDoorYS5
import Derived.Test.YtcdcheecaphmgaaDoorYS8
import Derived.Deep.CutRange
set_option linter.unusedVariables false
set_option linter.unusedSimpArgs false
namespace Go.Proofs.YtcdcheecaphmgaaDoor
open Go.RowKit Go.Shelf
theorem cutA {w w1 w2 : World} {a an : Option Addr} {cn : Nat} {out : Int} {L : List Nd} {S : Nat → Prop} (hC : CT w2 S an cn L) (hrd : RdN w a L) (k2 : Keep w1 w2) :
    Keep w1 (w2.alloc (Obj.cells #[Value.int IntKind.i64 out, Value.slice an L.length cn] 24)) ∧ (w2.alloc (Obj.cells #[Value.int IntKind.i64 out, Value.slice an L.length cn] 24)).heap[w2.heap.size]? = some (Obj.cells #[Value.int IntKind.i64 out, Value.slice an L.length cn] 24 (0, 0)) ∧ RdN (w2.alloc (Obj.cells #[Value.int IntKind.i64 out, Value.slice an L.length cn] 24)) an L :=
  ⟨k2.alloc _, heap_alloc_new w2 _, (hC.rdN hrd).keep ((Keep.refl w2).alloc _)⟩
theorem cutB {w w1 w2 : World} {a an : Option Addr} {cn : Nat} {out : Int} {L : List Nd} {x0 x1 : Value} (hC : CT w2 (fun b => w1.heap.size + 1 ≤ b ∧ b < w2.heap.size) an cn L) (hrd : RdN w a L) (k2 : Keep (w1.alloc (Obj.cells #[x0, x1] 24)) w2) :
    Keep w1 ((w2.setCell ⟨w1.heap.size, 0, none⟩ (Value.int IntKind.i64 out)).setCell ⟨w1.heap.size, 1, none⟩ (Value.slice an L.length cn)) ∧ ((w2.setCell ⟨w1.heap.size, 0, none⟩ (Value.int IntKind.i64 out)).setCell ⟨w1.heap.size, 1, none⟩ (Value.slice an L.length cn)).heap[w1.heap.size]? = some (Obj.cells #[Value.int IntKind.i64 out, Value.slice an L.length cn] 24 (0, 0)) ∧ RdN ((w2.setCell ⟨w1.heap.size, 0, none⟩ (Value.int IntKind.i64 out)).setCell ⟨w1.heap.size, 1, none⟩ (Value.slice an L.length cn)) an L := by
  have hb := (k2.block w1.heap.size (by rw [World.size_alloc]; omega)).trans (heap_alloc_new w1 _)
  have k12 : Keep w1 w2 := ((Keep.refl w1).alloc _).trans k2
  refine ⟨(k12.setCell (p := ⟨w1.heap.size, 0, none⟩) (Nat.le_refl _) _).setCell (p := ⟨w1.heap.size, 1, none⟩) (Nat.le_refl _) _, ?_, ?_⟩
  · have a0 := heap_setCell_same w2 w1.heap.size 0 _ 24 (Value.int IntKind.i64 out) hb
    have a1 := heap_setCell_same _ w1.heap.size 1 _ 24 (Value.slice an L.length cn) a0
    simpa using a1
  · refine CT.rdN (S := fun b => w1.heap.size + 1 ≤ b ∧ b < w2.heap.size) (hC.same (fun b hb => ?_) (fun b hb => hb)) hrd
    rw [neq_setM _ _ _ _ b (by omega), neq_setM _ _ _ _ b (by omega)]
theorem marks_eq {L : List Nd} {l m : List (Nat × Nat × Nat)} (h1 : lvE L ≠ 0 → l = []) (h2 : ∀ b, lvE L = 0 → Bt (shp L) b 0 → l = b.mks 0) (g1 : lvE L ≠ 0 → m = []) (g2 : ∀ b, lvE L = 0 → Bt (shp L) b 0 → m = b.mks 0) : l = m ∧ m.length ≤ 4096 := by
  by_cases hE : lvE L = 0
  · obtain ⟨-, -, -, b, hb, -, hn⟩ := lvE_ok hE
    rw [h2 b hE hb, g2 b hE hb]
    have := b.mks_len 0
    exact ⟨rfl, by omega⟩
  · rw [h1 hE, g1 hE]; exact ⟨rfl, by simp⟩
theorem ms_few {L : List Nd} {ms : List (List Nat)} (h : MsOk L ms) : ms.length ≤ 10000 ∧ ∀ i, i < ms.length → (ms.getD i []).length ≤ 10000 := by
  by_cases hE : lvE L = 0
  · obtain ⟨-, -, -, b, hb, -, hn⟩ := lvE_ok hE
    obtain ⟨h1, h2⟩ := h.2 b hE hb
    have := b.mks_len 0
    exact ⟨by omega, fun i hi => by rw [(h2 i hi).1]; omega⟩
  · rw [h.1 hE]; exact ⟨by simp, fun i hi => by simp at hi⟩
set_option maxRecDepth 100000 in
set_option maxHeartbeats 2000000 in
theorem law_marks (a : Option Addr) (cap : Nat) (out : Int) (L : List Nd) (hL : L.length ≤ 1759218604441) (w : World) (hTab : Bi.Tab w) (hrd : RdN w a L) :
    Calls Tryd.prog 3 #[.agg #[.int .i64 out, .slice a L.length cap]] w fun e w' => e = .returned (.bool true) ∧ Keep w w' := by
  have hLn : L.length ≤ 2199023255552 := by omega
  obtain ⟨w1, hw1, k1, tb⟩ : ∃ w1, w.alloc (Obj.cells #[Value.int IntKind.i64 out, Value.slice a L.length cap] 24) = w1 ∧ Keep w w1 ∧ w1.heap[w.heap.size]? = some (Obj.cells #[Value.int IntKind.i64 out, Value.slice a L.length cap] 24 (0, 0)) := ⟨_, rfl, (Keep.refl w).alloc _, heap_alloc_new w _⟩
  have hz : w.heap.size < w1.heap.size := (Array.getElem?_eq_some_iff.1 tb).1
  have x0 := cell_of_row _ _ 0 _ 24 (0, 0) tb
  have x1 := cell_of_row _ _ 1 _ 24 (0, 0) tb
  simp only [List.getElem?_toArray, List.getElem?_cons_zero, List.getElem?_cons_succ] at x0 x1
  have hN := fun (wx : World) (k : Keep w1 wx) => rNodes_any a cap L wx hL (hrd.keep (k1.trans k))
  have kz : Keep w1 (w1.alloc (Obj.cells #[Value.int IntKind.i64 0, Value.slice none 0 0] 24)) := (Keep.refl w1).alloc _
  have tz : (w1.alloc (Obj.cells #[Value.int IntKind.i64 0, Value.slice none 0 0] 24)).drew.heap[w1.heap.size]? = some (Obj.cells #[Value.int IntKind.i64 0, Value.slice none 0 0] 24 (0, 0)) := heap_alloc_new w1 _
  have x0z := kz.cell x0
  have x1z := kz.cell x1
  have x0d := (kz.drew).cell x0
  replace hw1 : Hid _ := hw1
  replace tz : Hid _ := tz
  replace tb : Hid _ := tb
  go_enter Tryd.func3, Tryd.ntmps3
  go_upto_region 1 with fail
  rw [hw1.out]
  go_cut [3] from 12 to 17 (fun s3 wx => ∃ B an cn, s3 = .pointer (some ⟨B, 0, none⟩) ∧ Keep w1 wx ∧ wx.heap[B]? = some (Obj.cells #[Value.int IntKind.i64 out, Value.slice an L.length cn] 24 (0, 0)) ∧ RdN wx an L)
  case first =>
    go_region_with (go_at_call 9; refine (hN _ (by first | exact (Keep.refl w1).drew | exact kz.drew)).mono ?_; rintro e w2 ⟨v2, rfl, ⟨K2, hN2⟩, k2⟩; obtain ⟨an, cn, rfl, hcn, hC2⟩ := hN2.ct; have d02 := k2.cell (show World.cell? _ ⟨w.heap.size, 0, none⟩ = some (.int .i64 out) from by first | exact x0 | exact x0d); have d03 := fun ob => (k2.alloc ob).cell (show World.cell? _ ⟨w.heap.size, 0, none⟩ = some (.int .i64 out) from by first | exact x0 | exact x0d); try (have hb2 := (k2.block _ (Array.getElem?_eq_some_iff.1 tz.out).1).trans tz.out; have e0 := cell_of_row _ _ 0 _ 24 (0, 0) hb2; have e1 := cell_of_row _ _ 1 _ 24 (0, 0) hb2; have q0 := frozen_of_row _ _ 0 _ 24 hb2; have q1 := frozen_of_row _ _ 1 _ 24 hb2; simp only [List.getElem?_toArray, List.getElem?_cons_zero, List.getElem?_cons_succ] at e0 e1; replace hb2 : Hid _ := hb2))
    all_goals
      go_wp2_with fail
      go_meet
      first
        | exact ⟨_, _, _, rfl, cutA hC2 hrd ((Keep.refl w1).drew.trans k2)⟩
        | exact ⟨_, _, _, rfl, cutB (hC2.same (fun _ _ => rfl) (fun b hb => by have h := hb.1; simp only [World.size_drew, World.size_alloc] at h; exact ⟨h, hb.2⟩)) hrd ((Keep.refl _).drew.trans k2)⟩
  case rest =>
    obtain ⟨B, an, cn, rfl, kc, tB, hrn⟩ := hcut
    have t1 := (kc.block _ hz).trans tb.out
    have k0c := k1.trans kc
    have y0 := cell_of_row _ _ 0 _ 24 (0, 0) tB
    have y1 := cell_of_row _ _ 1 _ 24 (0, 0) tB
    have z0 := cell_of_row _ _ 0 _ 24 (0, 0) t1
    have z1 := cell_of_row _ _ 1 _ 24 (0, 0) t1
    simp only [List.getElem?_toArray, List.getElem?_cons_zero, List.getElem?_cons_succ] at y0 y1 z0 z1
    have hM1 := Marks_any an cn out L hLn wc hrn
    replace tB : Hid _ := tB
    replace t1 : Hid _ := t1
    clear hN x0 x1 x0z x1z x0d hw1 tz tb
    go_wp2_with fail
    refine hM1.mono ?_
    rintro e w2 ⟨v2, l2, rfl, hO2, g2, g2', k2⟩
    obtain ⟨a2, c2, rfl, -, hr2⟩ := hO2.shape
    have z0 := k2.cell z0
    have z1 := k2.cell z1
    have y0 := k2.cell y0
    have y1 := k2.cell y1
    have hM2 := rMarks_any a cap out L hLn w2 (hrd.keep (k0c.trans k2))
    clear hM1 hO2
    go_wp2_with fail
    refine hM2.mono ?_
    rintro e w3 ⟨v3, l3, rfl, hO3, g3, g3', k3⟩
    obtain ⟨a3, c3, rfl, -, hr3⟩ := hO3.shape
    obtain ⟨rfl, hfew⟩ := marks_eq g2 g2' g3 g3'
    have z0 := k3.cell z0
    have z1 := k3.cell z1
    have y0 := k3.cell y0
    have y1 := k3.cell y1
    have hM3 := Masks_any an cn out L hLn w3 (hrn.keep (k2.trans k3))
    clear hM2 hO3 g2 g2' g3 g3'
    go_wp2_with fail
    refine hM3.mono ?_
    rintro e w4 ⟨a4, c4, m4, rfl, r4, ok4, k4⟩
    have z0 := k4.cell z0
    have z1 := k4.cell z1
    have y0 := k4.cell y0
    have y1 := k4.cell y1
    have k24 := (k2.trans k3).trans k4
    have hM4 := rMasks_any a cap out L hLn w4 (hrd.keep (k0c.trans k24))
    clear hM3
    go_wp2_with fail
    refine hM4.mono ?_
    rintro e w5 ⟨a5, c5, m5, rfl, r5, ok5, k5⟩
    obtain rfl := ok4.one ok5
    obtain ⟨hms1, hms2⟩ := ms_few ok5
    have z0 := k5.cell z0
    have z1 := k5.cell z1
    have y0 := k5.cell y0
    have y1 := k5.cell y1
    have k25 := k24.trans k5
    have k05 := k0c.trans k25
    have hV := lives_any w5 (Bi.Tab.keep hTab k05)
    clear hM4
    replace ok4 : Hid _ := ok4
    replace ok5 : Hid _ := ok5
    go_wp2_with fail
    refine hV.mono ?_
    rintro e w6 ⟨rfl, k6⟩
    have hS := SameM_eq a2 a3 c2 c3 l2 w6 (by omega) (hr2.keep (((k3.trans k4).trans k5).trans k6)) (hr3.keep ((k4.trans k5).trans k6))
    clear hV
    go_wp2_with fail
    refine hS.mono ?_
    rintro e w7 ⟨rfl, k7⟩
    have hK := Sets_eq a4 a5 c4 c5 m4 w7 hms1 hms2 (r4.keep ((k5.trans k6).trans k7)) (r5.keep (k6.trans k7))
    have cE : (lvE L == lvE L) = true := by simp
    clear hS
    go_wp2_with fail
    refine hK.mono ?_
    rintro e w8 ⟨rfl, k8⟩
    have k58 := (k6.trans k7).trans k8
    have z0 := k58.cell z0
    have z1 := k58.cell z1
    have y0 := k58.cell y0
    have y1 := k58.cell y1
    have hA := rAlike_any an a cn cap out out L L w8 hLn (hrn.keep (k25.trans k58)) (hrd.keep (k05.trans k58))
    rw [show @decide (out = out ∧ L = L) (Classical.propDecidable _) = true from @decide_eq_true _ (Classical.propDecidable _) ⟨rfl, rfl⟩] at hA
    clear hK
    go_wp2_with fail
    refine hA.mono ?_
    rintro e w9 ⟨rfl, k9⟩
    clear hA
    go_wp2_with fail
    go_ret
    exact ⟨rfl, (k05.trans k58).trans k9⟩
end Go.Proofs.YtcdcheecaphmgaaDoor
