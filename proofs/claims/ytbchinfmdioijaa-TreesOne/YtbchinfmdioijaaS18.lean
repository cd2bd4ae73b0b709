import Derived.Test.YtbchinfmdioijaaS17
import Derived.Test.YtbchinfmdioijaaY3
import Derived.Deep.RegionHeld3
set_option linter.unusedVariables false
set_option linter.unusedSimpArgs false
namespace Go.Proofs.Ytbchinfmdioijaa
open Go.RowKit Go.Shelf
theorem Alike_same (a b : Option Addr) (ca cb : Nat) (o : Int) (L : List Nd) (w : World) (hLn : L.length ≤ 2199023255552) (ra : RdN w a L) (rb : RdN w b L) :
    Calls Try.prog 40 #[.agg #[.int .i64 o, .slice a L.length ca], .agg #[.int .i64 o, .slice b L.length cb]] w fun e w' => e = .returned (.bool true) ∧ Keep w w' := by
  have h := Alike_any a b ca cb o o L L w hLn ra rb
  rw [@decide_eq_true _ (Classical.propDecidable _) ⟨rfl, rfl⟩] at h
  exact h
set_option maxRecDepth 100000 in
set_option maxHeartbeats 2000000 in
theorem law_copies (a : Option Addr) (cap : Nat) (out : Int) (L : List Nd) (hLn : L.length ≤ 1759218604441) (w : World) (hrd : RdN w a L) :
    Calls Try.prog 11 #[.agg #[.int .i64 out, .slice a L.length cap]] w fun e w' => e = .returned (.bool true) ∧ Keep w w' := by
  have hL2 : L.length ≤ 2199023255552 := by omega
  have hCp := fun (wx : World) (k : Keep w wx) => copied_any a cap out L wx hLn (hrd.keep k)
  have hCt := fun (wx : World) (k : Keep w wx) => Canon_any a cap out L hL2 wx (hrd.keep k)
  have k0 : Keep w (w.alloc (Obj.cells #[Value.int IntKind.i64 out, Value.slice a L.length cap] 24)) := (Keep.refl w).alloc _
  have tb : (w.alloc (Obj.cells #[Value.int IntKind.i64 out, Value.slice a L.length cap] 24)).heap[w.heap.size]? = some (Obj.cells #[Value.int IntKind.i64 out, Value.slice a L.length cap] 24 (0, 0)) := heap_alloc_new w _
  have hNl := cnoN_len L hL2
  go_enter Try.func11, Try.ntmps11
  go_wp2_with fail
  generalize w.alloc _ = w1 at k0 tb ⊢
  refine (hCp _ k0).mono ?_
  rintro e w2 ⟨a2, c2, rfl, hc2, r2, k2⟩
  have hCc := fun (wx : World) (k : Keep w2 wx) => Canon_any a2 c2 out L hL2 wx (r2.keep k)
  generalize cnoN L = M at *
  generalize cnoO L out = o' at *
  generalize shE L = E at *
  have k02 := k0.trans k2
  have hz1 : w.heap.size < w1.heap.size := (Array.getElem?_eq_some_iff.1 tb).1
  have tb2 := (k2.block _ hz1).trans tb
  go_wp2_with fail
  refine (hCc _ (Keep.refl _)).mono ?_
  rintro e w3 ⟨a3, c3, rfl, hc3, r3, k3, -⟩
  have hz2 : w.heap.size < w2.heap.size := (Array.getElem?_eq_some_iff.1 tb2).1
  have tb3 := (k3.block _ hz2).trans tb2
  have kb : Keep w3 (w3.alloc (Obj.cells #[Value.int IntKind.i64 o', Value.slice a3 M.length c3] 24)) := (Keep.refl w3).alloc _
  have tc : (w3.alloc (Obj.cells #[Value.int IntKind.i64 o', Value.slice a3 M.length c3] 24)).heap[w3.heap.size]? = some (Obj.cells #[Value.int IntKind.i64 o', Value.slice a3 M.length c3] 24 (0, 0)) := heap_alloc_new w3 _
  have hz3 : w.heap.size < w3.heap.size := (Array.getElem?_eq_some_iff.1 tb3).1
  have tb4 := (kb.block _ hz3).trans tb3
  have b0 := cell_of_row _ _ 0 _ 24 (0, 0) tb4
  have b1 := cell_of_row _ _ 1 _ 24 (0, 0) tb4
  simp only [List.getElem?_toArray, List.getElem?_cons_zero, List.getElem?_cons_succ] at b0 b1
  replace tb : Hid _ := tb
  replace tb2 : Hid _ := tb2
  replace tb3 : Hid _ := tb3
  replace tb4 : Hid _ := tb4
  replace tc : Hid _ := tc
  go_wp2_with fail
  generalize w3.alloc _ = w4 at kb tc tb4 b0 b1 ⊢
  have k04 := k02.trans (k3.trans kb)
  refine (hCt _ k04).mono ?_
  rintro e w5 ⟨a5, c5, rfl, hc5, r5, k5, -⟩
  have hz4 : w3.heap.size < w4.heap.size := (Array.getElem?_eq_some_iff.1 tc.out).1
  have hz4' : w.heap.size < w4.heap.size := (Array.getElem?_eq_some_iff.1 tb4.out).1
  have kd : Keep w5 (w5.alloc (Obj.cells #[Value.int IntKind.i64 o', Value.slice a5 M.length c5] 24)) := (Keep.refl w5).alloc _
  have td : (w5.alloc (Obj.cells #[Value.int IntKind.i64 o', Value.slice a5 M.length c5] 24)).heap[w5.heap.size]? = some (Obj.cells #[Value.int IntKind.i64 o', Value.slice a5 M.length c5] 24 (0, 0)) := heap_alloc_new w5 _
  have k45 := k5.trans kd
  have tb6 := (k45.block _ hz4').trans tb4.out
  have tc6 := (k45.block _ hz4).trans tc.out
  have r36 := r3.keep (kb.trans k45)
  have r56 := r5.keep kd
  have k06 := k04.trans k45
  clear hCc hCt b0 b1
  replace tb6 : Hid _ := tb6
  replace tc6 : Hid _ := tc6
  replace td : Hid _ := td
  go_wp2_with fail
  generalize w5.alloc _ = w6 at kd td tb6 tc6 r36 r56 k06 k45 ⊢
  have b0 := cell_of_row _ _ 0 _ 24 (0, 0) tb6.out
  have b1 := cell_of_row _ _ 1 _ 24 (0, 0) tb6.out
  have c0 := cell_of_row _ _ 0 _ 24 (0, 0) tc6.out
  have c1 := cell_of_row _ _ 1 _ 24 (0, 0) tc6.out
  have d0 := cell_of_row _ _ 0 _ 24 (0, 0) td.out
  have d1 := cell_of_row _ _ 1 _ 24 (0, 0) td.out
  simp only [List.getElem?_toArray, List.getElem?_cons_zero, List.getElem?_cons_succ] at b0 b1 c0 c1 d0 d1
  generalize w.heap.size = s1 at b0 b1 ⊢
  generalize w3.heap.size = s2 at c0 c1 ⊢
  generalize w5.heap.size = s3 at d0 d1 ⊢
  have LV := lives_any
  have hCp6 := fun (wx : World) (k : Keep w6 wx) => hCp wx (k06.trans k)
  clear hCp
  go_region_held3 (fun wx => Keep w6 wx ∧ wx.cell? ⟨s1, 0, none⟩ = some (Value.int .i64 out) ∧ wx.cell? ⟨s1, 1, none⟩ = some (Value.slice a L.length cap) ∧ wx.cell? ⟨s2, 0, none⟩ = some (Value.int .i64 o') ∧ wx.cell? ⟨s2, 1, none⟩ = some (Value.slice a3 M.length c3) ∧ wx.cell? ⟨s3, 0, none⟩ = some (Value.int .i64 o') ∧ wx.cell? ⟨s3, 1, none⟩ = some (Value.slice a5 M.length c5)) (first | exact ⟨(Keep.refl w6).drew, b0, b1, c0, c1, d0, d1⟩ | exact SK4 | exact SK3 | exact SK2 | exact SK1) (first
    | (go_at_call 14; refine (LV _).mono ?_; rintro e wA ⟨rfl, kA⟩; have kA0 := (Keep.refl w6).drew.trans kA; have SK1 := mk7 kA0 (kA0.cell b0) (kA0.cell b1) (kA0.cell c0) (kA0.cell c1) (kA0.cell d0) (kA0.cell d1))
    | (go_at_call 42; refine (hCp6 _ kA0).mono ?_; rintro e wB ⟨a7, c7, rfl, hc7, r7, kB⟩; have kB0 := kA0.trans kB; have SK2 := mk7 kB0 (kB0.cell b0) (kB0.cell b1) (kB0.cell c0) (kB0.cell c1) (kB0.cell d0) (kB0.cell d1))
    | (go_at_call 40; refine (Alike_same _ _ _ _ _ _ _ ?_ ?_ ?_).mono ?_; exact hNl; exact r36.keep kC0; exact r56.keep kC0; rintro e wD ⟨rfl, kD⟩; have kD0 := kC0.trans kD; have SK4 := mk7 kD0 (kD0.cell b0) (kD0.cell b1) (kD0.cell c0) (kD0.cell c1) (kD0.cell d0) (kD0.cell d1))
    | (go_at_call 40; refine (Alike_same _ _ _ _ _ _ _ ?_ ?_ ?_).mono ?_; exact hL2; exact hrd.keep (k06.trans kB0); exact r7; rintro e wC ⟨rfl, kC⟩; have kC0 := kB0.trans kC; have SK3 := mk7 kC0 (kC0.cell b0) (kC0.cell b1) (kC0.cell c0) (kC0.cell c1) (kC0.cell d0) (kC0.cell d1)))
  all_goals
    go_simp
    go_wp2_with fail
    go_ret
    exact ⟨ret_bool (by simp), k06.trans kD0⟩
end Go.Proofs.Ytbchinfmdioijaa
