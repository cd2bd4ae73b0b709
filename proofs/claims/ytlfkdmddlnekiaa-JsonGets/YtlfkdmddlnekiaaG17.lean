import Derived.Test.YtlfkdmddlnekiaaG16
import Derived.Deep.RegionHeld3
set_option linter.unusedVariables false
set_option linter.unusedSimpArgs false
namespace Go.Proofs.Ytlfkdmddlnekiaa
open Go.RowKit
theorem mk17 {a0 a1 a2 a3 a4 a5 a6 a7 a8 a9 a10 a11 a12 a13 a14 a15 a16 : Prop} (h0 : a0) (h1 : a1) (h2 : a2) (h3 : a3) (h4 : a4) (h5 : a5) (h6 : a6) (h7 : a7) (h8 : a8) (h9 : a9) (h10 : a10) (h11 : a11) (h12 : a12) (h13 : a13) (h14 : a14) (h15 : a15) (h16 : a16) : a0 ∧ a1 ∧ a2 ∧ a3 ∧ a4 ∧ a5 ∧ a6 ∧ a7 ∧ a8 ∧ a9 ∧ a10 ∧ a11 ∧ a12 ∧ a13 ∧ a14 ∧ a15 ∧ a16 := ⟨h0, h1, h2, h3, h4, h5, h6, h7, h8, h9, h10, h11, h12, h13, h14, h15, h16⟩
theorem copyOk : CopyOk := fun j v w hv hF => Copy_in _ j v w (Nat.le_refl _) hv hF
set_option maxRecDepth 100000 in
set_option maxHeartbeats 4000000 in
theorem law_gets (jv jw : J) (vv vw : Value) (nm : ByteArray) (w : World) (hv : RdV w vv jv) (hw : RdV w vw jw) (fv : Fit jv) :
    Calls Try.prog 3 #[vv, vw, .string nm] w fun e w' => e = .returned (.bool true) ∧ Keep w w' := by
  obtain ⟨x1, x2, x3, x4, x5, x6, x7, x8, rfl⟩ := hv.form
  obtain ⟨y1, y2, y3, y4, y5, y6, y7, y8, rfl⟩ := hw.form
  obtain ⟨w1, hw1, k1, s1, r0, r1⟩ := boxes2n w #[.int .u8 (x1 : Nat), .string x2, .slice x3 x4 x5, .slice x6 x7 x8] #[.int .u8 (y1 : Nat), .string y2, .slice y3 y4 y5, .slice y6 y7 y8] 26 26
  have hz0 := (Array.getElem?_eq_some_iff.1 r0).1
  have hz1 := (Array.getElem?_eq_some_iff.1 r1).1
  have X0 := cell_of_row _ _ 0 _ 26 (0, 0) r0
  have X1 := cell_of_row _ _ 1 _ 26 (0, 0) r0
  have X2 := cell_of_row _ _ 2 _ 26 (0, 0) r0
  have X3 := cell_of_row _ _ 3 _ 26 (0, 0) r0
  simp only [List.getElem?_toArray, List.getElem?_cons_zero, List.getElem?_cons_succ] at X0 X1 X2 X3
  have hG := Get_any copyOk jv _ nm w1 (hv.keep k1) fv
  replace hw1 : Hid _ := hw1
  replace r0 : Hid _ := r0
  replace r1 : Hid _ := r1
  replace s1 : Hid _ := s1
  go_enter Try.func3, Try.ntmps3
  go_wp2_with fail
  rw [hw1.out]
  refine hG.mono ?_
  rintro e w2 ⟨vx, jr, ok, rfl, hx, gx, k2⟩
  obtain ⟨p1, p2, p3, p4, p5, p6, p7, p8, rfl⟩ := hx.form
  have kb : Keep w2 (w2.alloc (Obj.cells #[.int .u8 (p1 : Nat), .string p2, .slice p3 p4 p5, .slice p6 p7 p8] 26)) := (Keep.refl w2).alloc _
  have tp : (w2.alloc (Obj.cells #[.int .u8 (p1 : Nat), .string p2, .slice p3 p4 p5, .slice p6 p7 p8] 26)).heap[w2.heap.size]? = some (Obj.cells #[.int .u8 (p1 : Nat), .string p2, .slice p3 p4 p5, .slice p6 p7 p8] 26 (0, 0)) := heap_alloc_new w2 _
  have k12 := k2.trans kb
  have X0 := k12.cell X0
  have X1 := k12.cell X1
  have X2 := k12.cell X2
  have X3 := k12.cell X3
  replace tp : Hid _ := tp
  clear hG
  have hG := rGet_any jv _ nm (w2.alloc (Obj.cells #[.int .u8 (p1 : Nat), .string p2, .slice p3 p4 p5, .slice p6 p7 p8] 26)) (hv.keep (k1.trans k12))
  go_wp2_with fail
  generalize w2.alloc (Obj.cells #[.int .u8 (p1 : Nat), .string p2, .slice p3 p4 p5, .slice p6 p7 p8] 26) = w3 at *
  refine hG.mono ?_
  rintro e w4 ⟨vy, js, fine, rfl, hy, gy, k4⟩
  obtain ⟨q1, q2, q3, q4, q5, q6, q7, q8, rfl⟩ := hy.form
  obtain ⟨rfl, rfl⟩ := isGet_one gx gy
  have kc : Keep w4 (w4.alloc (Obj.cells #[.int .u8 (q1 : Nat), .string q2, .slice q3 q4 q5, .slice q6 q7 q8] 26)) := (Keep.refl w4).alloc _
  have tq : (w4.alloc (Obj.cells #[.int .u8 (q1 : Nat), .string q2, .slice q3 q4 q5, .slice q6 q7 q8] 26)).heap[w4.heap.size]? = some (Obj.cells #[.int .u8 (q1 : Nat), .string q2, .slice q3 q4 q5, .slice q6 q7 q8] 26 (0, 0)) := heap_alloc_new w4 _
  have k34 := k4.trans kc
  have k14 := k12.trans k34
  have k05 := k1.trans k14
  have hp5 := hx.keep (kb.trans k34)
  have hq5 := hy.keep kc
  have u0 := (k14.block _ hz0).trans r0.out
  have u1 := (k14.block _ hz1).trans r1.out
  have u2 := (k34.block _ (Array.getElem?_eq_some_iff.1 tp.out).1).trans tp.out
  have hv5 := hv.keep k05
  have hw5 := hw.keep k05
  replace tq : Hid _ := tq
  replace u0 : Hid _ := u0
  replace u1 : Hid _ := u1
  replace u2 : Hid _ := u2
  clear hG gx gy hx hy X0 X1 X2 X3 kb k12 k34 k14 tp r0 r1 hz0 hz1 s1 hw1
  go_wp2_with fail
  generalize w4.alloc (Obj.cells #[.int .u8 (q1 : Nat), .string q2, .slice q3 q4 q5, .slice q6 q7 q8] 26) = w5 at *
  have X0 := cell_of_row _ _ 0 _ 26 (0, 0) u0.out
  have X1 := cell_of_row _ _ 1 _ 26 (0, 0) u0.out
  have X2 := cell_of_row _ _ 2 _ 26 (0, 0) u0.out
  have X3 := cell_of_row _ _ 3 _ 26 (0, 0) u0.out
  have Y0 := cell_of_row _ _ 0 _ 26 (0, 0) u1.out
  have Y1 := cell_of_row _ _ 1 _ 26 (0, 0) u1.out
  have Y2 := cell_of_row _ _ 2 _ 26 (0, 0) u1.out
  have Y3 := cell_of_row _ _ 3 _ 26 (0, 0) u1.out
  have P0 := cell_of_row _ _ 0 _ 26 (0, 0) u2.out
  have P1 := cell_of_row _ _ 1 _ 26 (0, 0) u2.out
  have P2 := cell_of_row _ _ 2 _ 26 (0, 0) u2.out
  have P3 := cell_of_row _ _ 3 _ 26 (0, 0) u2.out
  have Q0 := cell_of_row _ _ 0 _ 26 (0, 0) tq.out
  have Q1 := cell_of_row _ _ 1 _ 26 (0, 0) tq.out
  have Q2 := cell_of_row _ _ 2 _ 26 (0, 0) tq.out
  have Q3 := cell_of_row _ _ 3 _ 26 (0, 0) tq.out
  simp only [List.getElem?_toArray, List.getElem?_cons_zero, List.getElem?_cons_succ] at X0 X1 X2 X3 Y0 Y1 Y2 Y3 P0 P1 P2 P3 Q0 Q1 Q2 Q3
  clear u0 u1 u2 tq
  generalize w4.heap.size = sb at Q0 Q1 Q2 Q3 ⊢
  generalize w2.heap.size = sa at P0 P1 P2 P3 ⊢
  generalize w.heap.size = se at X0 X1 X2 X3 Y0 Y1 Y2 Y3 ⊢
  have hPQ := fun (wx : World) (k : Keep w5 wx) => rSame_in _ jr jr _ _ wx (Nat.le_refl _) (hp5.keep k) (hq5.keep k)
  have hS := fun (wx : World) (k : Keep w5 wx) => Same_in _ jv jw _ _ wx (Nat.le_refl _) (hv5.keep k) (hw5.keep k)
  have hR := fun (wx : World) (k : Keep w5 wx) => rSame_in _ jv jw _ _ wx (Nat.le_refl _) (hv5.keep k) (hw5.keep k)
  have hC8 := fun (wx : World) (k : Keep w5 wx) => rCopy_in _ jv _ wx (Nat.le_refl _) (hv5.keep k) fv
  have hC9 := fun (wx : World) (k : Keep w5 wx) => Copy_in _ jv _ wx (Nat.le_refl _) (hv5.keep k) fv
  have hS2 := fun (wx : World) (k : Keep w5 wx) (v8 : Value) (h8 : RdV wx v8 jv) => Same_in _ jv jv _ v8 wx (Nat.le_refl _) (hv5.keep k) h8
  have hR2 := fun (wx : World) (k : Keep w5 wx) (v9 : Value) (h9 : RdV wx v9 jv) => rSame_in _ jv jv v9 _ wx (Nat.le_refl _) h9 (hv5.keep k)
  simp only [eqJ_true] at hPQ hS2 hR2
  generalize eqD jv jw (Classical.propDecidable _) = d at hS hR
  clear hv5 hw5 hp5 hq5
  have KD : Keep w5 w5.drew := (Keep.refl w5).drew
  have SK0 := mk17 KD (KD.cell X0) (KD.cell X1) (KD.cell X2) (KD.cell X3) (KD.cell Y0) (KD.cell Y1) (KD.cell Y2) (KD.cell Y3) (KD.cell P0) (KD.cell P1) (KD.cell P2) (KD.cell P3) (KD.cell Q0) (KD.cell Q1) (KD.cell Q2) (KD.cell Q3)
  cases ok <;> cases d
  all_goals
    go_region_held3 (fun wx => Keep w5 wx ∧ wx.cell? ⟨se, 0, none⟩ = some (.int .u8 (x1 : Nat)) ∧ wx.cell? ⟨se, 1, none⟩ = some (.string x2) ∧ wx.cell? ⟨se, 2, none⟩ = some (.slice x3 x4 x5) ∧ wx.cell? ⟨se, 3, none⟩ = some (.slice x6 x7 x8) ∧ wx.cell? ⟨se + 1, 0, none⟩ = some (.int .u8 (y1 : Nat)) ∧ wx.cell? ⟨se + 1, 1, none⟩ = some (.string y2) ∧ wx.cell? ⟨se + 1, 2, none⟩ = some (.slice y3 y4 y5) ∧ wx.cell? ⟨se + 1, 3, none⟩ = some (.slice y6 y7 y8) ∧ wx.cell? ⟨sa, 0, none⟩ = some (.int .u8 (p1 : Nat)) ∧ wx.cell? ⟨sa, 1, none⟩ = some (.string p2) ∧ wx.cell? ⟨sa, 2, none⟩ = some (.slice p3 p4 p5) ∧ wx.cell? ⟨sa, 3, none⟩ = some (.slice p6 p7 p8) ∧ wx.cell? ⟨sb, 0, none⟩ = some (.int .u8 (q1 : Nat)) ∧ wx.cell? ⟨sb, 1, none⟩ = some (.string q2) ∧ wx.cell? ⟨sb, 2, none⟩ = some (.slice q3 q4 q5) ∧ wx.cell? ⟨sb, 3, none⟩ = some (.slice q6 q7 q8)) (first | with_reducible exact SK0 | with_reducible exact SK7 | with_reducible exact SK6 | with_reducible exact SK5 | with_reducible exact SK4 | with_reducible exact SK3 | with_reducible exact SK2 | with_reducible exact SK1) (first
      | (go_at_call 6; refine (hR2 _ kF _ h9).mono ?_; rintro e wG ⟨rfl, kg⟩; have kG := kF.trans kg; have SK7 := mk17 kG (kG.cell X0) (kG.cell X1) (kG.cell X2) (kG.cell X3) (kG.cell Y0) (kG.cell Y1) (kG.cell Y2) (kG.cell Y3) (kG.cell P0) (kG.cell P1) (kG.cell P2) (kG.cell P3) (kG.cell Q0) (kG.cell Q1) (kG.cell Q2) (kG.cell Q3))
      | (go_at_call 9; refine (hC9 _ kE).mono ?_; rintro e wF ⟨v9, rfl, h9, kf⟩; have h9 := h9.rdv; obtain ⟨m1, m2, m3, m4, m5, m6, m7, m8, rfl⟩ := h9.form; have kF := kE.trans kf; have SK6 := mk17 kF (kF.cell X0) (kF.cell X1) (kF.cell X2) (kF.cell X3) (kF.cell Y0) (kF.cell Y1) (kF.cell Y2) (kF.cell Y3) (kF.cell P0) (kF.cell P1) (kF.cell P2) (kF.cell P3) (kF.cell Q0) (kF.cell Q1) (kF.cell Q2) (kF.cell Q3))
      | (go_at_call 7; refine (hS2 _ kD _ h8).mono ?_; rintro e wE ⟨rfl, ke⟩; have kE := kD.trans ke; have SK5 := mk17 kE (kE.cell X0) (kE.cell X1) (kE.cell X2) (kE.cell X3) (kE.cell Y0) (kE.cell Y1) (kE.cell Y2) (kE.cell Y3) (kE.cell P0) (kE.cell P1) (kE.cell P2) (kE.cell P3) (kE.cell Q0) (kE.cell Q1) (kE.cell Q2) (kE.cell Q3))
      | (go_at_call 8; refine (hC8 _ kC).mono ?_; rintro e wD ⟨v8, rfl, h8, kd⟩; have h8 := h8.rdv; obtain ⟨e1, e2, e3, e4, e5, e6, e7, e8, rfl⟩ := h8.form; have kD := kC.trans kd; have SK4 := mk17 kD (kD.cell X0) (kD.cell X1) (kD.cell X2) (kD.cell X3) (kD.cell Y0) (kD.cell Y1) (kD.cell Y2) (kD.cell Y3) (kD.cell P0) (kD.cell P1) (kD.cell P2) (kD.cell P3) (kD.cell Q0) (kD.cell Q1) (kD.cell Q2) (kD.cell Q3))
      | (go_at_call 6; refine (hR _ kB).mono ?_; rintro e wC ⟨rfl, kc⟩; have kC := kB.trans kc; have SK3 := mk17 kC (kC.cell X0) (kC.cell X1) (kC.cell X2) (kC.cell X3) (kC.cell Y0) (kC.cell Y1) (kC.cell Y2) (kC.cell Y3) (kC.cell P0) (kC.cell P1) (kC.cell P2) (kC.cell P3) (kC.cell Q0) (kC.cell Q1) (kC.cell Q2) (kC.cell Q3))
      | (go_at_call 7; refine (hS _ kA).mono ?_; rintro e wB ⟨rfl, kb⟩; have kB := kA.trans kb; have SK2 := mk17 kB (kB.cell X0) (kB.cell X1) (kB.cell X2) (kB.cell X3) (kB.cell Y0) (kB.cell Y1) (kB.cell Y2) (kB.cell Y3) (kB.cell P0) (kB.cell P1) (kB.cell P2) (kB.cell P3) (kB.cell Q0) (kB.cell Q1) (kB.cell Q2) (kB.cell Q3))
      | (go_at_call 6; refine (hPQ _ KD).mono ?_; rintro e wA ⟨rfl, ka⟩; have kA := KD.trans ka; have SK1 := mk17 kA (kA.cell X0) (kA.cell X1) (kA.cell X2) (kA.cell X3) (kA.cell Y0) (kA.cell Y1) (kA.cell Y2) (kA.cell Y3) (kA.cell P0) (kA.cell P1) (kA.cell P2) (kA.cell P3) (kA.cell Q0) (kA.cell Q1) (kA.cell Q2) (kA.cell Q3)))
    all_goals
      go_simp
      go_wp2_with fail
      go_ret
      exact ⟨rfl, k05.trans kG⟩
end Go.Proofs.Ytlfkdmddlnekiaa
