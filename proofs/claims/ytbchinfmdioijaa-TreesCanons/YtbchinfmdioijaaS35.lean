import Derived.Test.YtbchinfmdioijaaS34
set_option linter.unusedVariables false
set_option linter.unusedSimpArgs false
namespace Go.Proofs.Ytbchinfmdioijaa
open Go.RowKit Go.Shelf
theorem mk21 {a0 a1 a2 a3 a4 a5 a6 a7 a8 a9 a10 a11 a12 a13 a14 a15 a16 a17 a18 a19 a20 : Prop} (h0 : a0) (h1 : a1) (h2 : a2) (h3 : a3) (h4 : a4) (h5 : a5) (h6 : a6) (h7 : a7) (h8 : a8) (h9 : a9) (h10 : a10) (h11 : a11) (h12 : a12) (h13 : a13) (h14 : a14) (h15 : a15) (h16 : a16) (h17 : a17) (h18 : a18) (h19 : a19) (h20 : a20) : a0 ∧ a1 ∧ a2 ∧ a3 ∧ a4 ∧ a5 ∧ a6 ∧ a7 ∧ a8 ∧ a9 ∧ a10 ∧ a11 ∧ a12 ∧ a13 ∧ a14 ∧ a15 ∧ a16 ∧ a17 ∧ a18 ∧ a19 ∧ a20 := ⟨h0, h1, h2, h3, h4, h5, h6, h7, h8, h9, h10, h11, h12, h13, h14, h15, h16, h17, h18, h19, h20⟩
theorem mk6 {a0 a1 a2 a3 a4 a5 : Prop} (h0 : a0) (h1 : a1) (h2 : a2) (h3 : a3) (h4 : a4) (h5 : a5) : a0 ∧ a1 ∧ a2 ∧ a3 ∧ a4 ∧ a5 := ⟨h0, h1, h2, h3, h4, h5⟩
theorem rAlike_same (a b : Option Addr) (ca cb : Nat) (o : Int) (L : List Nd) (w : World) (hLn : L.length ≤ 2199023255552) (ra : RdN w a L) (rb : RdN w b L) :
    Calls Try.prog 39 #[.agg #[.int .i64 o, .slice a L.length ca], .agg #[.int .i64 o, .slice b L.length cb]] w fun e w' => e = .returned (.bool true) ∧ Keep w w' := by
  have h := rAlike_any a b ca cb o o L L w hLn ra rb
  rw [@decide_eq_true _ (Classical.propDecidable _) ⟨rfl, rfl⟩] at h
  exact h
set_option maxRecDepth 100000 in
set_option maxHeartbeats 4000000 in
theorem law_canons (nm1 : ByteArray) (fa1 : Option Addr) (fs1 : List ByteArray) (cf1 : Nat) (N1 : Int) (ba1 : Option Addr) (bs1 : List Int) (cb1 : Nat) (ta1 : Option Addr) (ts1 : List (Int × List Nd)) (ct1 : Nat) (nm2 : ByteArray) (fa2 : Option Addr) (fs2 : List ByteArray) (cf2 : Nat) (N2 : Int) (ba2 : Option Addr) (bs2 : List Int) (cb2 : Nat) (ta2 : Option Addr) (ts2 : List (Int × List Nd)) (ct2 : Nat) (w : World) (hnm1 : nm1.size ≤ 281474976710656) (hf1 : RdS w fa1 fs1) (hfz1 : ∀ j, j < fs1.length → (fs1.getD j ByteArray.empty).size ≤ 281474976710656) (hfl1 : fs1.length ≤ 8796093022208) (hb1 : RdI w ba1 bs1) (hbc1 : bs1.length ≤ cb1) (hbl1 : bs1.length ≤ 17592186044416) (ht1 : RdT w ta1 ts1) (htl1 : ts1.length ≤ 4398046511104) (hts1 : ∀ j, j < ts1.length → (ts1.getD j (0, [])).2.length ≤ 1759218604441) (hnm2 : nm2.size ≤ 281474976710656) (hf2 : RdS w fa2 fs2) (hfz2 : ∀ j, j < fs2.length → (fs2.getD j ByteArray.empty).size ≤ 281474976710656) (hfl2 : fs2.length ≤ 8796093022208) (hb2 : RdI w ba2 bs2) (hbc2 : bs2.length ≤ cb2) (hbl2 : bs2.length ≤ 17592186044416) (ht2 : RdT w ta2 ts2) (htl2 : ts2.length ≤ 4398046511104) (hts2 : ∀ j, j < ts2.length → (ts2.getD j (0, [])).2.length ≤ 1759218604441) :
    Calls Try.prog 7 #[ens nm1 fa1 fs1.length cf1 N1 ba1 bs1.length cb1 ta1 ts1.length ct1, ens nm2 fa2 fs2.length cf2 N2 ba2 bs2.length cb2 ta2 ts2.length ct2] w fun e w' => e = .returned (.bool true) ∧ Keep w w' := by
  have hM := fun (wx : World) (k : Keep w wx) => Model_any nm1 fa1 fs1 cf1 N1 ba1 bs1 cb1 ta1 ts1 ct1 wx hnm1 (hf1.keep k) hfz1 hfl1 (hb1.keep k) hbc1 hbl1 (ht1.keep k) htl1
  have hM' := fun (wx : World) (k : Keep w wx) => rModel_any nm1 fa1 fs1 cf1 N1 ba1 bs1 cb1 ta1 ts1 ct1 wx (hf1.keep k) hfl1 (hb1.keep k) hbl1 (ht1.keep k) htl1 hts1
  have hMu := fun (wx : World) (k : Keep w wx) => (hM wx k).mono (fun e w' h => ml_post h)
  have hMv := fun (wx : World) (k : Keep w wx) => (hM' wx k).mono (fun e w' h => ml_post h)
  have hLen := ml_len hfl1 hbl1 htl1
  clear hM hM'
  obtain ⟨w1, hw1, k1, s1, r0, r1⟩ := boxes2n w #[Value.string nm1, Value.slice fa1 fs1.length cf1, Value.int IntKind.i64 N1, Value.slice ba1 bs1.length cb1, Value.slice ta1 ts1.length ct1] #[Value.string nm2, Value.slice fa2 fs2.length cf2, Value.int IntKind.i64 N2, Value.slice ba2 bs2.length cb2, Value.slice ta2 ts2.length ct2] 52 52
  have hz0 : w.heap.size < w1.heap.size := (Array.getElem?_eq_some_iff.1 r0).1
  have hz1 : w.heap.size + 1 < w1.heap.size := (Array.getElem?_eq_some_iff.1 r1).1
  generalize mlN nm1 ts1 = nmA at *
  generalize mlF fs1 ts1 = fsA at *
  generalize mlO N1 ts1 = NA at *
  generalize mlB bs1 ts1 = bsA at *
  generalize mlT ts1 = tsA at *
  generalize mdE ts1 = EE at *
  have hS12 := fun (wx : World) (k : Keep w wx) => Same_any nm1 fa1 fs1 cf1 N1 ba1 bs1 cb1 ta1 ts1 ct1 nm2 fa2 fs2 cf2 N2 ba2 bs2 cb2 ta2 ts2 ct2 wx (hf1.keep k) hfl1 (hb1.keep k) hbl1 (ht1.keep k) htl1 (hf2.keep k) (hb2.keep k) (ht2.keep k)
  have hR12 := fun (wx : World) (k : Keep w wx) => rSame_any nm1 fa1 fs1 cf1 N1 ba1 bs1 cb1 ta1 ts1 ct1 nm2 fa2 fs2 cf2 N2 ba2 bs2 cb2 ta2 ts2 ct2 wx (hf1.keep k) hfl1 (hb1.keep k) hbl1 (ht1.keep k) htl1 (hf2.keep k) (hb2.keep k) (ht2.keep k)
  generalize @decide (EnsEq nm1 fs1 N1 bs1 ts1 nm2 fs2 N2 bs2 ts2) (Classical.propDecidable _) = d at hS12 hR12
  have hC1 := fun (wx : World) (k : Keep w wx) => rCopy_any nm1 fa1 fs1 cf1 N1 ba1 bs1 cb1 ta1 ts1 ct1 wx (hf1.keep k) hfl1 (hb1.keep k) hbl1 (ht1.keep k) htl1 hts1
  have hC2 := fun (wx : World) (k : Keep w wx) => Copy_any nm1 fa1 fs1 cf1 N1 ba1 bs1 cb1 ta1 ts1 ct1 wx hnm1 (hf1.keep k) hfz1 hfl1 (hb1.keep k) hbc1 hbl1 (ht1.keep k) htl1 hts1
  unfold ens at *
  replace hw1 : Hid _ := hw1
  replace r0 : Hid _ := r0
  replace r1 : Hid _ := r1
  go_enter Try.func7, Try.ntmps7
  go_wp2_with fail
  rw [hw1.out]
  refine (hMu _ k1).mono ?_
  rintro e w2 ⟨fa3, cf3, ba3, cb3, ta3, ct3, rfl, rS3, rI3, rT3, k2⟩
  have k02 := k1.trans k2
  have kb : Keep w2 (w2.alloc (Obj.cells #[Value.string nmA, Value.slice fa3 fsA.length cf3, Value.int IntKind.i64 NA, Value.slice ba3 bsA.length cb3, Value.slice ta3 tsA.length ct3] 52)) := (Keep.refl w2).alloc _
  have ta : (w2.alloc (Obj.cells #[Value.string nmA, Value.slice fa3 fsA.length cf3, Value.int IntKind.i64 NA, Value.slice ba3 bsA.length cb3, Value.slice ta3 tsA.length ct3] 52)).heap[w2.heap.size]? = some (Obj.cells #[Value.string nmA, Value.slice fa3 fsA.length cf3, Value.int IntKind.i64 NA, Value.slice ba3 bsA.length cb3, Value.slice ta3 tsA.length ct3] 52 (0, 0)) := heap_alloc_new w2 _
  have q0 := ((k2.trans kb).block _ hz0).trans r0.out
  have x0 := cell_of_row _ _ 0 _ 52 (0, 0) q0
  have x1 := cell_of_row _ _ 1 _ 52 (0, 0) q0
  have x2 := cell_of_row _ _ 2 _ 52 (0, 0) q0
  have x3 := cell_of_row _ _ 3 _ 52 (0, 0) q0
  have x4 := cell_of_row _ _ 4 _ 52 (0, 0) q0
  simp only [List.getElem?_toArray, List.getElem?_cons_zero, List.getElem?_cons_succ] at x0 x1 x2 x3 x4
  replace q0 : Hid _ := q0
  replace ta : Hid _ := ta
  go_wp2_with fail
  generalize w2.alloc _ = w3 at kb ta q0 x0 x1 x2 x3 x4 ⊢
  have k03 := k02.trans kb
  refine (hMv _ k03).mono ?_
  rintro e w4 ⟨fa4, cf4, ba4, cb4, ta4, ct4, rfl, rS4, rI4, rT4, k4⟩
  have kc : Keep w4 (w4.alloc (Obj.cells #[Value.string nmA, Value.slice fa4 fsA.length cf4, Value.int IntKind.i64 NA, Value.slice ba4 bsA.length cb4, Value.slice ta4 tsA.length ct4] 52)) := (Keep.refl w4).alloc _
  have tb : (w4.alloc (Obj.cells #[Value.string nmA, Value.slice fa4 fsA.length cf4, Value.int IntKind.i64 NA, Value.slice ba4 bsA.length cb4, Value.slice ta4 tsA.length ct4] 52)).heap[w4.heap.size]? = some (Obj.cells #[Value.string nmA, Value.slice fa4 fsA.length cf4, Value.int IntKind.i64 NA, Value.slice ba4 bsA.length cb4, Value.slice ta4 tsA.length ct4] 52 (0, 0)) := heap_alloc_new w4 _
  have k24 := kb.trans (k4.trans kc)
  have k34 := k4.trans kc
  have hz2 : w2.heap.size < w3.heap.size := (Array.getElem?_eq_some_iff.1 ta.out).1
  have hz01 : w1.heap.size ≤ w2.heap.size := k2.le
  have u0 := ((k2.trans k24).block _ hz0).trans r0.out
  have u1 := ((k2.trans k24).block _ hz1).trans r1.out
  have u2 := (k34.block _ hz2).trans ta.out
  replace tb : Hid _ := tb
  replace u0 : Hid _ := u0
  replace u1 : Hid _ := u1
  replace u2 : Hid _ := u2
  have k05 := k03.trans k34
  have rS3 := rS3.keep k24
  have rI3 := rI3.keep k24
  have rT3 := rT3.keep k24
  have rS4 := rS4.keep kc
  have rI4 := rI4.keep kc
  have rT4 := rT4.keep kc
  clear hMu hMv x0 x1 x2 x3 x4
  go_wp2_with fail
  generalize w4.alloc _ = w5 at kc tb u0 u1 u2 k24 k34 k05 rS3 rI3 rT3 rS4 rI4 rT4 ⊢
  have x0 := cell_of_row _ _ 0 _ 52 (0, 0) u0.out
  have x1 := cell_of_row _ _ 1 _ 52 (0, 0) u0.out
  have x2 := cell_of_row _ _ 2 _ 52 (0, 0) u0.out
  have x3 := cell_of_row _ _ 3 _ 52 (0, 0) u0.out
  have x4 := cell_of_row _ _ 4 _ 52 (0, 0) u0.out
  have y0 := cell_of_row _ _ 0 _ 52 (0, 0) u1.out
  have y1 := cell_of_row _ _ 1 _ 52 (0, 0) u1.out
  have y2 := cell_of_row _ _ 2 _ 52 (0, 0) u1.out
  have y3 := cell_of_row _ _ 3 _ 52 (0, 0) u1.out
  have y4 := cell_of_row _ _ 4 _ 52 (0, 0) u1.out
  have p0 := cell_of_row _ _ 0 _ 52 (0, 0) u2.out
  have p1 := cell_of_row _ _ 1 _ 52 (0, 0) u2.out
  have p2 := cell_of_row _ _ 2 _ 52 (0, 0) u2.out
  have p3 := cell_of_row _ _ 3 _ 52 (0, 0) u2.out
  have p4 := cell_of_row _ _ 4 _ 52 (0, 0) u2.out
  have q0 := cell_of_row _ _ 0 _ 52 (0, 0) tb.out
  have q1 := cell_of_row _ _ 1 _ 52 (0, 0) tb.out
  have q2 := cell_of_row _ _ 2 _ 52 (0, 0) tb.out
  have q3 := cell_of_row _ _ 3 _ 52 (0, 0) tb.out
  have q4 := cell_of_row _ _ 4 _ 52 (0, 0) tb.out
  simp only [List.getElem?_toArray, List.getElem?_cons_zero, List.getElem?_cons_succ] at x0 x1 x2 x3 x4 y0 y1 y2 y3 y4 p0 p1 p2 p3 p4 q0 q1 q2 q3 q4
  generalize w4.heap.size = sb at q0 q1 q2 q3 q4 ⊢
  generalize w2.heap.size = sa at p0 p1 p2 p3 p4 ⊢
  generalize w.heap.size = se at x0 x1 x2 x3 x4 y0 y1 y2 y3 y4 ⊢
  have LV := lives_any
  have hAB := fun (wx : World) (k : Keep w5 wx) => rSame_self nmA fa3 fsA cf3 NA ba3 bsA cb3 ta3 tsA ct3 fa4 cf4 ba4 cb4 ta4 ct4 wx (rS3.keep k) hLen.1 (rI3.keep k) hLen.2.1 (rT3.keep k) hLen.2.2 (rS4.keep k) (rI4.keep k) (rT4.keep k)
  unfold ens at hAB
  have hR7 := fun (wx : World) (k : Keep w5 wx) (fa7 : Option Addr) (cf7 : Nat) (ba7 : Option Addr) (cb7 : Nat) (ta7 : Option Addr) (ct7 : Nat) (h1 : RdS wx fa7 fs1) (h2 : RdI wx ba7 bs1) (h3 : RdT wx ta7 ts1) => Same_self nm1 fa1 fs1 cf1 N1 ba1 bs1 cb1 ta1 ts1 ct1 fa7 cf7 ba7 cb7 ta7 ct7 wx (hf1.keep (k05.trans k)) hfl1 (hb1.keep (k05.trans k)) hbl1 (ht1.keep (k05.trans k)) htl1 h1 h2 h3
  have hR8 := fun (wx : World) (k : Keep w5 wx) (fa7 : Option Addr) (cf7 : Nat) (ba7 : Option Addr) (cb7 : Nat) (ta7 : Option Addr) (ct7 : Nat) (h1 : RdS wx fa7 fs1) (h2 : RdI wx ba7 bs1) (h3 : RdT wx ta7 ts1) => rSame_self nm1 fa7 fs1 cf7 N1 ba7 bs1 cb7 ta7 ts1 ct7 fa1 cf1 ba1 cb1 ta1 ct1 wx h1 hfl1 h2 hbl1 h3 htl1 (hf1.keep (k05.trans k)) (hb1.keep (k05.trans k)) (ht1.keep (k05.trans k))
  unfold ens at hR7 hR8
  have KD : Keep w5 w5.drew := (Keep.refl w5).drew
  have SK0 := mk21 KD (KD.cell x0) (KD.cell x1) (KD.cell x2) (KD.cell x3) (KD.cell x4) (KD.cell y0) (KD.cell y1) (KD.cell y2) (KD.cell y3) (KD.cell y4) (KD.cell p0) (KD.cell p1) (KD.cell p2) (KD.cell p3) (KD.cell p4) (KD.cell q0) (KD.cell q1) (KD.cell q2) (KD.cell q3) (KD.cell q4)
  replace LV : Hid _ := LV
  cases d
  · go_region_held3 (fun wx => Keep w5 wx ∧ wx.cell? ⟨se, 0, none⟩ = some (Value.string nm1) ∧ wx.cell? ⟨se, 1, none⟩ = some (Value.slice fa1 fs1.length cf1) ∧ wx.cell? ⟨se, 2, none⟩ = some (Value.int IntKind.i64 N1) ∧ wx.cell? ⟨se, 3, none⟩ = some (Value.slice ba1 bs1.length cb1) ∧ wx.cell? ⟨se, 4, none⟩ = some (Value.slice ta1 ts1.length ct1) ∧ wx.cell? ⟨se + 1, 0, none⟩ = some (Value.string nm2) ∧ wx.cell? ⟨se + 1, 1, none⟩ = some (Value.slice fa2 fs2.length cf2) ∧ wx.cell? ⟨se + 1, 2, none⟩ = some (Value.int IntKind.i64 N2) ∧ wx.cell? ⟨se + 1, 3, none⟩ = some (Value.slice ba2 bs2.length cb2) ∧ wx.cell? ⟨se + 1, 4, none⟩ = some (Value.slice ta2 ts2.length ct2) ∧ wx.cell? ⟨sa, 0, none⟩ = some (Value.string nmA) ∧ wx.cell? ⟨sa, 1, none⟩ = some (Value.slice fa3 fsA.length cf3) ∧ wx.cell? ⟨sa, 2, none⟩ = some (Value.int IntKind.i64 NA) ∧ wx.cell? ⟨sa, 3, none⟩ = some (Value.slice ba3 bsA.length cb3) ∧ wx.cell? ⟨sa, 4, none⟩ = some (Value.slice ta3 tsA.length ct3) ∧ wx.cell? ⟨sb, 0, none⟩ = some (Value.string nmA) ∧ wx.cell? ⟨sb, 1, none⟩ = some (Value.slice fa4 fsA.length cf4) ∧ wx.cell? ⟨sb, 2, none⟩ = some (Value.int IntKind.i64 NA) ∧ wx.cell? ⟨sb, 3, none⟩ = some (Value.slice ba4 bsA.length cb4) ∧ wx.cell? ⟨sb, 4, none⟩ = some (Value.slice ta4 tsA.length ct4)) (first | with_reducible exact SK0 | with_reducible exact SK8 | with_reducible exact SK7 | with_reducible exact SK6 | with_reducible exact SK5 | with_reducible exact SK4 | with_reducible exact SK3 | with_reducible exact SK2 | with_reducible exact SK1) (first
      | (go_at_call 32; refine (hR8 _ kG _ _ _ _ _ _ rS8 rI8 rT8).mono ?_; rintro e wH ⟨rfl, kh⟩; have kH := kG.trans kh; have SK8 := mk21 kH (kH.cell x0) (kH.cell x1) (kH.cell x2) (kH.cell x3) (kH.cell x4) (kH.cell y0) (kH.cell y1) (kH.cell y2) (kH.cell y3) (kH.cell y4) (kH.cell p0) (kH.cell p1) (kH.cell p2) (kH.cell p3) (kH.cell p4) (kH.cell q0) (kH.cell q1) (kH.cell q2) (kH.cell q3) (kH.cell q4))
      | (go_at_call 36; refine (hC2 _ (k05.trans kF)).mono ?_; rintro e wG ⟨fa8, cf8, ba8, cb8, ta8, ct8, rfl, rS8, -, rI8, -, rT8, -, kg⟩; have kG := kF.trans kg; have SK7 := mk21 kG (kG.cell x0) (kG.cell x1) (kG.cell x2) (kG.cell x3) (kG.cell x4) (kG.cell y0) (kG.cell y1) (kG.cell y2) (kG.cell y3) (kG.cell y4) (kG.cell p0) (kG.cell p1) (kG.cell p2) (kG.cell p3) (kG.cell p4) (kG.cell q0) (kG.cell q1) (kG.cell q2) (kG.cell q3) (kG.cell q4))
      | (go_at_call 35; refine (hR7 _ kE _ _ _ _ _ _ rS7 rI7 rT7).mono ?_; rintro e wF ⟨rfl, kf⟩; have kF := kE.trans kf; have SK6 := mk21 kF (kF.cell x0) (kF.cell x1) (kF.cell x2) (kF.cell x3) (kF.cell x4) (kF.cell y0) (kF.cell y1) (kF.cell y2) (kF.cell y3) (kF.cell y4) (kF.cell p0) (kF.cell p1) (kF.cell p2) (kF.cell p3) (kF.cell p4) (kF.cell q0) (kF.cell q1) (kF.cell q2) (kF.cell q3) (kF.cell q4))
      | (go_at_call 28; refine (hC1 _ (k05.trans kD)).mono ?_; rintro e wE ⟨fa7, cf7, ba7, cb7, ta7, ct7, rfl, rS7, -, rI7, -, rT7, -, ke⟩; have kE := kD.trans ke; have SK5 := mk21 kE (kE.cell x0) (kE.cell x1) (kE.cell x2) (kE.cell x3) (kE.cell x4) (kE.cell y0) (kE.cell y1) (kE.cell y2) (kE.cell y3) (kE.cell y4) (kE.cell p0) (kE.cell p1) (kE.cell p2) (kE.cell p3) (kE.cell p4) (kE.cell q0) (kE.cell q1) (kE.cell q2) (kE.cell q3) (kE.cell q4))
      | (go_at_call 32; refine (hR12 _ (k05.trans kC)).mono ?_; rintro e wD ⟨rfl, kd⟩; have kD := kC.trans kd; have SK4 := mk21 kD (kD.cell x0) (kD.cell x1) (kD.cell x2) (kD.cell x3) (kD.cell x4) (kD.cell y0) (kD.cell y1) (kD.cell y2) (kD.cell y3) (kD.cell y4) (kD.cell p0) (kD.cell p1) (kD.cell p2) (kD.cell p3) (kD.cell p4) (kD.cell q0) (kD.cell q1) (kD.cell q2) (kD.cell q3) (kD.cell q4))
      | (go_at_call 35; refine (hS12 _ (k05.trans kB)).mono ?_; rintro e wC ⟨rfl, kc'⟩; have kC := kB.trans kc'; have SK3 := mk21 kC (kC.cell x0) (kC.cell x1) (kC.cell x2) (kC.cell x3) (kC.cell x4) (kC.cell y0) (kC.cell y1) (kC.cell y2) (kC.cell y3) (kC.cell y4) (kC.cell p0) (kC.cell p1) (kC.cell p2) (kC.cell p3) (kC.cell p4) (kC.cell q0) (kC.cell q1) (kC.cell q2) (kC.cell q3) (kC.cell q4))
      | (go_at_call 32; refine (hAB _ kA).mono ?_; rintro e wB ⟨rfl, kb'⟩; have kB := kA.trans kb'; have SK2 := mk21 kB (kB.cell x0) (kB.cell x1) (kB.cell x2) (kB.cell x3) (kB.cell x4) (kB.cell y0) (kB.cell y1) (kB.cell y2) (kB.cell y3) (kB.cell y4) (kB.cell p0) (kB.cell p1) (kB.cell p2) (kB.cell p3) (kB.cell p4) (kB.cell q0) (kB.cell q1) (kB.cell q2) (kB.cell q3) (kB.cell q4))
      | (go_at_call 14; refine (LV.out _).mono ?_; rintro e wA ⟨rfl, ka⟩; have kA := KD.trans ka; have SK1 := mk21 kA (kA.cell x0) (kA.cell x1) (kA.cell x2) (kA.cell x3) (kA.cell x4) (kA.cell y0) (kA.cell y1) (kA.cell y2) (kA.cell y3) (kA.cell y4) (kA.cell p0) (kA.cell p1) (kA.cell p2) (kA.cell p3) (kA.cell p4) (kA.cell q0) (kA.cell q1) (kA.cell q2) (kA.cell q3) (kA.cell q4)))
    have kwH : Keep w wH := k05.trans kH
    have y4H := kH.cell y4
    have x4H := kH.cell x4
    clear SK0 SK1 SK2 SK3 SK4 SK5 SK6 SK7 SK8
    go_simp
    go_wp2_with fail
    clear hS12 hR12 hC1 hC2 hR7 hR8 hAB rS7 rI7 rT7 rS8 rI8 rT8 rS3 rI3 rT3 rS4 rI4 rT4 LV
    clear x0 x1 x2 x3 x4 y0 y1 y2 y3 y4 p0 p1 p2 p3 p4 q1 q2 q3 q4
    generalize Value.agg #[Value.string nm1, Value.slice fa1 fs1.length cf1, Value.int IntKind.i64 N1, Value.slice ba1 bs1.length cb1, Value.slice ta1 ts1.length ct1] = V1
    generalize Value.agg #[Value.string nm2, Value.slice fa2 fs2.length cf2, Value.int IntKind.i64 N2, Value.slice ba2 bs2.length cb2, Value.slice ta2 ts2.length ct2] = V2
    generalize Value.agg #[Value.string nmA, Value.slice fa3 fsA.length cf3, Value.int IntKind.i64 NA, Value.slice ba3 bsA.length cb3, Value.slice ta3 tsA.length ct3] = V3
    generalize Value.agg #[Value.string nmA, Value.slice fa4 fsA.length cf4, Value.int IntKind.i64 NA, Value.slice ba4 bsA.length cb4, Value.slice ta4 tsA.length ct4] = V4
    rename Keep w5 wH ∧ _ => hHD
    clear hHD
    go_loopw [64] (fun iv wr => ∃ k : Nat, k ≤ ts1.length ∧ iv = .int .i64 k ∧ Keep wH wr) (fun iv _ => ts1.length - (intOf iv).toNat)
    case atStart => exact ⟨0, by omega, rfl, Keep.refl wH⟩
    case round =>
      obtain ⟨k, hk, rfl, kw⟩ := hrel
      have kwr := kwH.trans kw
      by_cases hkl : k < ts1.length
      · have hkc : (k : Int) < (ts1.length : Int) := by omega
        obtain ⟨b, o, na, nc, rfl, d0, d1, dn, dc, dl, df⟩ := (ht1.keep kwr) k hkl
        have hln := hts1 k hkl
        generalize (ts1.getD k (0, [])).1 = out at *
        generalize (ts1.getD k (0, [])).2 = L at *
        obtain ⟨X1, hX1, kX, X1b⟩ : ∃ X1, wr.alloc (Obj.cells #[Value.int IntKind.i64 out, Value.slice na L.length nc] 24) = X1 ∧ Keep wr X1 ∧ X1.heap[wr.heap.size]? = some (Obj.cells #[Value.int IntKind.i64 out, Value.slice na L.length nc] 24 (0, 0)) := ⟨_, rfl, (Keep.refl wr).alloc _, heap_alloc_new wr _⟩
        have hCn := Canon_any na nc out L dl X1 (dn.keep kX)
        have hCr := fun (wx : World) (kk : Keep wr wx) => rCanon_any na nc out L hln dc wx (dn.keep kk)
        have hfit := cnoN_fit dl dn
        have hMl := cnoN_len L dl
        generalize cnoN L = M at *
        generalize cnoO L out = O at *
        generalize shE L = E1 at *
        have hz : wr.heap.size < X1.heap.size := (Array.getElem?_eq_some_iff.1 X1b).1
        replace X1b : Hid _ := X1b
        replace hX1 : Hid _ := hX1
        go_wp2_with fail
        rw [hX1.out]
        refine hCn.mono ?_
        rintro e w6 ⟨ac, cc, rfl, hcc, rc, k6, -⟩
        have kq : Keep w6 (w6.alloc (Obj.cells #[Value.int IntKind.i64 O, Value.slice ac M.length cc] 24)) := (Keep.refl w6).alloc _
        have tcb : (w6.alloc (Obj.cells #[Value.int IntKind.i64 O, Value.slice ac M.length cc] 24)).heap[w6.heap.size]? = some (Obj.cells #[Value.int IntKind.i64 O, Value.slice ac M.length cc] 24 (0, 0)) := heap_alloc_new w6 _
        have tt := ((k6.trans kq).block _ hz).trans X1b.out
        have t0 := cell_of_row _ _ 0 _ 24 (0, 0) tt
        have t1 := cell_of_row _ _ 1 _ 24 (0, 0) tt
        simp only [List.getElem?_toArray, List.getElem?_cons_zero, List.getElem?_cons_succ] at t0 t1
        replace tt : Hid _ := tt
        replace tcb : Hid _ := tcb
        go_wp2_with fail
        generalize w6.alloc _ = w7 at kq tcb tt t0 t1 ⊢
        have kr7 := kX.trans (k6.trans kq)
        refine (hCr _ kr7).mono ?_
        rintro e w8 ⟨ad, cd, rfl, hcd, hCT, k8⟩
        have rdd := hCT.rdN2 hfit
        have ke : Keep w8 (w8.alloc (Obj.cells #[Value.int IntKind.i64 O, Value.slice ad M.length cd] 24)) := (Keep.refl w8).alloc _
        have tdb : (w8.alloc (Obj.cells #[Value.int IntKind.i64 O, Value.slice ad M.length cd] 24)).heap[w8.heap.size]? = some (Obj.cells #[Value.int IntKind.i64 O, Value.slice ad M.length cd] 24 (0, 0)) := heap_alloc_new w8 _
        have hz6 : w6.heap.size < w7.heap.size := (Array.getElem?_eq_some_iff.1 tcb.out).1
        have hz7 : wr.heap.size < w7.heap.size := (Array.getElem?_eq_some_iff.1 tt.out).1
        have k79 := k8.trans ke
        have c9 := (k79.block _ hz6).trans tcb.out
        have t9 := (k79.block _ hz7).trans tt.out
        have rc9 := rc.keep (kq.trans k79)
        have rd9 := rdd.keep ke
        have c90 := cell_of_row _ _ 0 _ 24 (0, 0) c9
        have c91 := cell_of_row _ _ 1 _ 24 (0, 0) c9
        have t90 := cell_of_row _ _ 0 _ 24 (0, 0) t9
        have t91 := cell_of_row _ _ 1 _ 24 (0, 0) t9
        simp only [List.getElem?_toArray, List.getElem?_cons_zero, List.getElem?_cons_succ] at c90 c91 t90 t91
        have kr9 := kr7.trans k79
        clear hCn hCr t0 t1
        replace c9 : Hid _ := c9
        replace t9 : Hid _ := t9
        replace tdb : Hid _ := tdb
        go_wp2_with fail
        generalize w8.alloc _ = w9 at ke tdb c9 t9 k79 rc9 rd9 c90 c91 t90 t91 kr9 ⊢
        refine (rAlike_same _ _ _ _ _ _ _ hMl rc9 rd9).mono ?_
        rintro e w10 ⟨rfl, k10⟩
        have kr10 := kr9.trans k10
        go_wp2_with fail
        have z4 := (kw.trans kr10).cell y4H
        have v0 := k10.cell t90
        have v1 := k10.cell t91
        have kwr10 := kwr.trans kr10
        have KD2 : Keep w10 w10.drew := (Keep.refl w10).drew
        have z4b : w10.cell? ⟨se + 1, 4, none⟩ = some (Value.slice ta2 ts2.length ct2) := z4
        clear y4H x4H
        try clear hnm1; try clear hf1; try clear hfz1; try clear hfl1; try clear hb1; try clear hbc1; try clear hbl1; try clear hts1; try clear hnm2; try clear hf2; try clear hfz2; try clear hfl2; try clear hb2; try clear hbc2; try clear hbl2; try clear htl2; try clear hts2; try clear hLen; try clear hw1; try clear k1; try clear s1; try clear r0; try clear r1; try clear hz0; try clear hz1; try clear k2; try clear k02; try clear kb; try clear ta; try clear q0; try clear k03; try clear k4; try clear kc; try clear tb; try clear k24; try clear k34; try clear hz2; try clear hz01; try clear u0; try clear u1; try clear u2; try clear rS3; try clear rI3; try clear rT3; try clear rS4; try clear rI4; try clear rT4; try clear x0; try clear x1; try clear x2; try clear x3; try clear x4; try clear y0; try clear y1; try clear y2; try clear y3; try clear y4; try clear p0; try clear p1; try clear p2; try clear p3; try clear p4; try clear q1; try clear q2; try clear q3; try clear q4; try clear LV; try clear hAB; try clear hR7; try clear hR8; try clear KD; try clear kA; try clear kB; try clear kC; try clear kD; try clear kE; try clear kF; try clear kG; try clear kH; try clear ka; try clear kb'; try clear kc'; try clear kd; try clear ke; try clear kf; try clear kg; try clear kh; try clear rS7; try clear rI7; try clear rT7; try clear rS8; try clear rI8; try clear rT8; try clear hkc; try clear d0; try clear d1; try clear dc; try clear df; try clear hln; try clear X1b; try clear hX1; try clear kX; try clear hfit; try clear hMl; try clear hz; try clear k6; try clear tt; try clear tcb; try clear kq; try clear kr7; try clear k8; try clear rdd; try clear hCT; try clear ke; try clear tdb; try clear hz6; try clear hz7; try clear k79; try clear c9; try clear t9; try clear rc9; try clear rd9; try clear c90; try clear c91; try clear t90; try clear t91; try clear kr9; try clear k10; try clear k05; try clear kwH; try clear hcc; try clear hcd; try clear rc
        by_cases hk2 : k < ts2.length
        · have hkc2 : (k : Int) < (ts2.length : Int) := by omega
          have hgd : decide ((k : Int) < (ts2.length : Int)) = true := decide_eq_true hkc2
          obtain ⟨b2, o2, na2, nc2, rfl, g0, g1, gn, gc, gl, gf⟩ := (ht2.keep kwr10) k hk2
          generalize (ts2.getD k (0, [])).1 = out2 at *
          generalize (ts2.getD k (0, [])).2 = L2 at *
          have hA1 := fun (wx : World) (kk : Keep w10 wx) => Alike_any na na2 nc nc2 out out2 L L2 wx dl (dn.keep (kr10.trans kk)) (gn.keep kk)
          have hA2 := fun (wx : World) (kk : Keep w10 wx) => rAlike_any na na2 nc nc2 out out2 L L2 wx dl (dn.keep (kr10.trans kk)) (gn.keep kk)
          generalize @decide (out = out2 ∧ L = L2) (Classical.propDecidable _) = d2 at hA1 hA2
          clear ht1 ht2 kwr kwr10 dn dl gn gc gl gf
          have T0 := mk6 KD2 (KD2.cell z4) (KD2.cell v0) (KD2.cell v1) (KD2.cell g0) (KD2.cell g1)
          cases d2
          all_goals
            go_region_held3 (fun wx => Keep w10 wx ∧ wx.cell? ⟨se + 1, 4, none⟩ = some (Value.slice (some ⟨b2, o2, none⟩) ts2.length ct2) ∧ wx.cell? ⟨wr.heap.size, 0, none⟩ = some (Value.int IntKind.i64 out) ∧ wx.cell? ⟨wr.heap.size, 1, none⟩ = some (Value.slice na L.length nc) ∧ wx.cell? ⟨b2, o2 + k * 2, none⟩ = some (Value.int .i64 out2) ∧ wx.cell? ⟨b2, o2 + k * 2 + 1, none⟩ = some (Value.slice na2 L2.length nc2)) (first | with_reducible exact T0 | with_reducible exact T2 | with_reducible exact T1) (first | (go_at_call 39; refine (hA2 _ kz1).mono ?_; rintro e wZ ⟨rfl, kz⟩; have kz2 := kz1.trans kz; have T2 := mk6 kz2 (kz2.cell z4) (kz2.cell v0) (kz2.cell v1) (kz2.cell g0) (kz2.cell g1)) | (go_at_call 40; refine (hA1 _ KD2).mono ?_; rintro e wY ⟨rfl, ky⟩; have kz1 := KD2.trans ky; have T1 := mk6 kz1 (kz1.cell z4) (kz1.cell v0) (kz1.cell v1) (kz1.cell g0) (kz1.cell g1)))
            go_simp
            go_wp2_with fail
            exact ⟨⟨k + 1, by omega, by go_num, kw.trans (kr10.trans kz2)⟩, by simp [intOf]; omega⟩
        · have hkc2 : ¬ (k : Int) < (ts2.length : Int) := by omega
          have hgd : decide ((k : Int) < (ts2.length : Int)) = false := decide_eq_false hkc2
          clear ht1 ht2 kwr kwr10 dn dl
          have T0 := And.intro KD2 (KD2.cell z4)
          clear KD2 T0
          go_quiet (fail)
          all_goals
            go_simp
            go_wp2_with fail
            exact ⟨⟨k + 1, by omega, by go_num, kw.trans (kr10.trans ((Keep.refl w10).drewN _))⟩, by simp [intOf]; omega⟩
      · have hkc : ¬ (k : Int) < (ts1.length : Int) := by omega
        go_wp2_with fail
        go_ret
        exact ⟨rfl, kwr⟩
  · go_region_held3 (fun wx => Keep w5 wx ∧ wx.cell? ⟨se, 0, none⟩ = some (Value.string nm1) ∧ wx.cell? ⟨se, 1, none⟩ = some (Value.slice fa1 fs1.length cf1) ∧ wx.cell? ⟨se, 2, none⟩ = some (Value.int IntKind.i64 N1) ∧ wx.cell? ⟨se, 3, none⟩ = some (Value.slice ba1 bs1.length cb1) ∧ wx.cell? ⟨se, 4, none⟩ = some (Value.slice ta1 ts1.length ct1) ∧ wx.cell? ⟨se + 1, 0, none⟩ = some (Value.string nm2) ∧ wx.cell? ⟨se + 1, 1, none⟩ = some (Value.slice fa2 fs2.length cf2) ∧ wx.cell? ⟨se + 1, 2, none⟩ = some (Value.int IntKind.i64 N2) ∧ wx.cell? ⟨se + 1, 3, none⟩ = some (Value.slice ba2 bs2.length cb2) ∧ wx.cell? ⟨se + 1, 4, none⟩ = some (Value.slice ta2 ts2.length ct2) ∧ wx.cell? ⟨sa, 0, none⟩ = some (Value.string nmA) ∧ wx.cell? ⟨sa, 1, none⟩ = some (Value.slice fa3 fsA.length cf3) ∧ wx.cell? ⟨sa, 2, none⟩ = some (Value.int IntKind.i64 NA) ∧ wx.cell? ⟨sa, 3, none⟩ = some (Value.slice ba3 bsA.length cb3) ∧ wx.cell? ⟨sa, 4, none⟩ = some (Value.slice ta3 tsA.length ct3) ∧ wx.cell? ⟨sb, 0, none⟩ = some (Value.string nmA) ∧ wx.cell? ⟨sb, 1, none⟩ = some (Value.slice fa4 fsA.length cf4) ∧ wx.cell? ⟨sb, 2, none⟩ = some (Value.int IntKind.i64 NA) ∧ wx.cell? ⟨sb, 3, none⟩ = some (Value.slice ba4 bsA.length cb4) ∧ wx.cell? ⟨sb, 4, none⟩ = some (Value.slice ta4 tsA.length ct4)) (first | with_reducible exact SK0 | with_reducible exact SK8 | with_reducible exact SK7 | with_reducible exact SK6 | with_reducible exact SK5 | with_reducible exact SK4 | with_reducible exact SK3 | with_reducible exact SK2 | with_reducible exact SK1) (first
      | (go_at_call 32; refine (hR8 _ kG _ _ _ _ _ _ rS8 rI8 rT8).mono ?_; rintro e wH ⟨rfl, kh⟩; have kH := kG.trans kh; have SK8 := mk21 kH (kH.cell x0) (kH.cell x1) (kH.cell x2) (kH.cell x3) (kH.cell x4) (kH.cell y0) (kH.cell y1) (kH.cell y2) (kH.cell y3) (kH.cell y4) (kH.cell p0) (kH.cell p1) (kH.cell p2) (kH.cell p3) (kH.cell p4) (kH.cell q0) (kH.cell q1) (kH.cell q2) (kH.cell q3) (kH.cell q4))
      | (go_at_call 36; refine (hC2 _ (k05.trans kF)).mono ?_; rintro e wG ⟨fa8, cf8, ba8, cb8, ta8, ct8, rfl, rS8, -, rI8, -, rT8, -, kg⟩; have kG := kF.trans kg; have SK7 := mk21 kG (kG.cell x0) (kG.cell x1) (kG.cell x2) (kG.cell x3) (kG.cell x4) (kG.cell y0) (kG.cell y1) (kG.cell y2) (kG.cell y3) (kG.cell y4) (kG.cell p0) (kG.cell p1) (kG.cell p2) (kG.cell p3) (kG.cell p4) (kG.cell q0) (kG.cell q1) (kG.cell q2) (kG.cell q3) (kG.cell q4))
      | (go_at_call 35; refine (hR7 _ kE _ _ _ _ _ _ rS7 rI7 rT7).mono ?_; rintro e wF ⟨rfl, kf⟩; have kF := kE.trans kf; have SK6 := mk21 kF (kF.cell x0) (kF.cell x1) (kF.cell x2) (kF.cell x3) (kF.cell x4) (kF.cell y0) (kF.cell y1) (kF.cell y2) (kF.cell y3) (kF.cell y4) (kF.cell p0) (kF.cell p1) (kF.cell p2) (kF.cell p3) (kF.cell p4) (kF.cell q0) (kF.cell q1) (kF.cell q2) (kF.cell q3) (kF.cell q4))
      | (go_at_call 28; refine (hC1 _ (k05.trans kD)).mono ?_; rintro e wE ⟨fa7, cf7, ba7, cb7, ta7, ct7, rfl, rS7, -, rI7, -, rT7, -, ke⟩; have kE := kD.trans ke; have SK5 := mk21 kE (kE.cell x0) (kE.cell x1) (kE.cell x2) (kE.cell x3) (kE.cell x4) (kE.cell y0) (kE.cell y1) (kE.cell y2) (kE.cell y3) (kE.cell y4) (kE.cell p0) (kE.cell p1) (kE.cell p2) (kE.cell p3) (kE.cell p4) (kE.cell q0) (kE.cell q1) (kE.cell q2) (kE.cell q3) (kE.cell q4))
      | (go_at_call 32; refine (hR12 _ (k05.trans kC)).mono ?_; rintro e wD ⟨rfl, kd⟩; have kD := kC.trans kd; have SK4 := mk21 kD (kD.cell x0) (kD.cell x1) (kD.cell x2) (kD.cell x3) (kD.cell x4) (kD.cell y0) (kD.cell y1) (kD.cell y2) (kD.cell y3) (kD.cell y4) (kD.cell p0) (kD.cell p1) (kD.cell p2) (kD.cell p3) (kD.cell p4) (kD.cell q0) (kD.cell q1) (kD.cell q2) (kD.cell q3) (kD.cell q4))
      | (go_at_call 35; refine (hS12 _ (k05.trans kB)).mono ?_; rintro e wC ⟨rfl, kc'⟩; have kC := kB.trans kc'; have SK3 := mk21 kC (kC.cell x0) (kC.cell x1) (kC.cell x2) (kC.cell x3) (kC.cell x4) (kC.cell y0) (kC.cell y1) (kC.cell y2) (kC.cell y3) (kC.cell y4) (kC.cell p0) (kC.cell p1) (kC.cell p2) (kC.cell p3) (kC.cell p4) (kC.cell q0) (kC.cell q1) (kC.cell q2) (kC.cell q3) (kC.cell q4))
      | (go_at_call 32; refine (hAB _ kA).mono ?_; rintro e wB ⟨rfl, kb'⟩; have kB := kA.trans kb'; have SK2 := mk21 kB (kB.cell x0) (kB.cell x1) (kB.cell x2) (kB.cell x3) (kB.cell x4) (kB.cell y0) (kB.cell y1) (kB.cell y2) (kB.cell y3) (kB.cell y4) (kB.cell p0) (kB.cell p1) (kB.cell p2) (kB.cell p3) (kB.cell p4) (kB.cell q0) (kB.cell q1) (kB.cell q2) (kB.cell q3) (kB.cell q4))
      | (go_at_call 14; refine (LV.out _).mono ?_; rintro e wA ⟨rfl, ka⟩; have kA := KD.trans ka; have SK1 := mk21 kA (kA.cell x0) (kA.cell x1) (kA.cell x2) (kA.cell x3) (kA.cell x4) (kA.cell y0) (kA.cell y1) (kA.cell y2) (kA.cell y3) (kA.cell y4) (kA.cell p0) (kA.cell p1) (kA.cell p2) (kA.cell p3) (kA.cell p4) (kA.cell q0) (kA.cell q1) (kA.cell q2) (kA.cell q3) (kA.cell q4)))
    have kwH : Keep w wH := k05.trans kH
    have y4H := kH.cell y4
    have x4H := kH.cell x4
    clear SK0 SK1 SK2 SK3 SK4 SK5 SK6 SK7 SK8
    go_simp
    go_wp2_with fail
    clear hS12 hR12 hC1 hC2 hR7 hR8 hAB rS7 rI7 rT7 rS8 rI8 rT8 rS3 rI3 rT3 rS4 rI4 rT4 LV
    clear x0 x1 x2 x3 x4 y0 y1 y2 y3 y4 p0 p1 p2 p3 p4 q1 q2 q3 q4
    generalize Value.agg #[Value.string nm1, Value.slice fa1 fs1.length cf1, Value.int IntKind.i64 N1, Value.slice ba1 bs1.length cb1, Value.slice ta1 ts1.length ct1] = V1
    generalize Value.agg #[Value.string nm2, Value.slice fa2 fs2.length cf2, Value.int IntKind.i64 N2, Value.slice ba2 bs2.length cb2, Value.slice ta2 ts2.length ct2] = V2
    generalize Value.agg #[Value.string nmA, Value.slice fa3 fsA.length cf3, Value.int IntKind.i64 NA, Value.slice ba3 bsA.length cb3, Value.slice ta3 tsA.length ct3] = V3
    generalize Value.agg #[Value.string nmA, Value.slice fa4 fsA.length cf4, Value.int IntKind.i64 NA, Value.slice ba4 bsA.length cb4, Value.slice ta4 tsA.length ct4] = V4
    rename Keep w5 wH ∧ _ => hHD
    clear hHD
    go_loopw [64] (fun iv wr => ∃ k : Nat, k ≤ ts1.length ∧ iv = .int .i64 k ∧ Keep wH wr) (fun iv _ => ts1.length - (intOf iv).toNat)
    case atStart => exact ⟨0, by omega, rfl, Keep.refl wH⟩
    case round =>
      obtain ⟨k, hk, rfl, kw⟩ := hrel
      have kwr := kwH.trans kw
      by_cases hkl : k < ts1.length
      · have hkc : (k : Int) < (ts1.length : Int) := by omega
        obtain ⟨b, o, na, nc, rfl, d0, d1, dn, dc, dl, df⟩ := (ht1.keep kwr) k hkl
        have hln := hts1 k hkl
        generalize (ts1.getD k (0, [])).1 = out at *
        generalize (ts1.getD k (0, [])).2 = L at *
        obtain ⟨X1, hX1, kX, X1b⟩ : ∃ X1, wr.alloc (Obj.cells #[Value.int IntKind.i64 out, Value.slice na L.length nc] 24) = X1 ∧ Keep wr X1 ∧ X1.heap[wr.heap.size]? = some (Obj.cells #[Value.int IntKind.i64 out, Value.slice na L.length nc] 24 (0, 0)) := ⟨_, rfl, (Keep.refl wr).alloc _, heap_alloc_new wr _⟩
        have hCn := Canon_any na nc out L dl X1 (dn.keep kX)
        have hCr := fun (wx : World) (kk : Keep wr wx) => rCanon_any na nc out L hln dc wx (dn.keep kk)
        have hfit := cnoN_fit dl dn
        have hMl := cnoN_len L dl
        generalize cnoN L = M at *
        generalize cnoO L out = O at *
        generalize shE L = E1 at *
        have hz : wr.heap.size < X1.heap.size := (Array.getElem?_eq_some_iff.1 X1b).1
        replace X1b : Hid _ := X1b
        replace hX1 : Hid _ := hX1
        go_wp2_with fail
        rw [hX1.out]
        refine hCn.mono ?_
        rintro e w6 ⟨ac, cc, rfl, hcc, rc, k6, -⟩
        have kq : Keep w6 (w6.alloc (Obj.cells #[Value.int IntKind.i64 O, Value.slice ac M.length cc] 24)) := (Keep.refl w6).alloc _
        have tcb : (w6.alloc (Obj.cells #[Value.int IntKind.i64 O, Value.slice ac M.length cc] 24)).heap[w6.heap.size]? = some (Obj.cells #[Value.int IntKind.i64 O, Value.slice ac M.length cc] 24 (0, 0)) := heap_alloc_new w6 _
        have tt := ((k6.trans kq).block _ hz).trans X1b.out
        have t0 := cell_of_row _ _ 0 _ 24 (0, 0) tt
        have t1 := cell_of_row _ _ 1 _ 24 (0, 0) tt
        simp only [List.getElem?_toArray, List.getElem?_cons_zero, List.getElem?_cons_succ] at t0 t1
        replace tt : Hid _ := tt
        replace tcb : Hid _ := tcb
        go_wp2_with fail
        generalize w6.alloc _ = w7 at kq tcb tt t0 t1 ⊢
        have kr7 := kX.trans (k6.trans kq)
        refine (hCr _ kr7).mono ?_
        rintro e w8 ⟨ad, cd, rfl, hcd, hCT, k8⟩
        have rdd := hCT.rdN2 hfit
        have ke : Keep w8 (w8.alloc (Obj.cells #[Value.int IntKind.i64 O, Value.slice ad M.length cd] 24)) := (Keep.refl w8).alloc _
        have tdb : (w8.alloc (Obj.cells #[Value.int IntKind.i64 O, Value.slice ad M.length cd] 24)).heap[w8.heap.size]? = some (Obj.cells #[Value.int IntKind.i64 O, Value.slice ad M.length cd] 24 (0, 0)) := heap_alloc_new w8 _
        have hz6 : w6.heap.size < w7.heap.size := (Array.getElem?_eq_some_iff.1 tcb.out).1
        have hz7 : wr.heap.size < w7.heap.size := (Array.getElem?_eq_some_iff.1 tt.out).1
        have k79 := k8.trans ke
        have c9 := (k79.block _ hz6).trans tcb.out
        have t9 := (k79.block _ hz7).trans tt.out
        have rc9 := rc.keep (kq.trans k79)
        have rd9 := rdd.keep ke
        have c90 := cell_of_row _ _ 0 _ 24 (0, 0) c9
        have c91 := cell_of_row _ _ 1 _ 24 (0, 0) c9
        have t90 := cell_of_row _ _ 0 _ 24 (0, 0) t9
        have t91 := cell_of_row _ _ 1 _ 24 (0, 0) t9
        simp only [List.getElem?_toArray, List.getElem?_cons_zero, List.getElem?_cons_succ] at c90 c91 t90 t91
        have kr9 := kr7.trans k79
        clear hCn hCr t0 t1
        replace c9 : Hid _ := c9
        replace t9 : Hid _ := t9
        replace tdb : Hid _ := tdb
        go_wp2_with fail
        generalize w8.alloc _ = w9 at ke tdb c9 t9 k79 rc9 rd9 c90 c91 t90 t91 kr9 ⊢
        refine (rAlike_same _ _ _ _ _ _ _ hMl rc9 rd9).mono ?_
        rintro e w10 ⟨rfl, k10⟩
        have kr10 := kr9.trans k10
        go_wp2_with fail
        have z4 := (kw.trans kr10).cell y4H
        have v0 := k10.cell t90
        have v1 := k10.cell t91
        have kwr10 := kwr.trans kr10
        have KD2 : Keep w10 w10.drew := (Keep.refl w10).drew
        have z4b : w10.cell? ⟨se + 1, 4, none⟩ = some (Value.slice ta2 ts2.length ct2) := z4
        clear y4H x4H
        try clear hnm1; try clear hf1; try clear hfz1; try clear hfl1; try clear hb1; try clear hbc1; try clear hbl1; try clear hts1; try clear hnm2; try clear hf2; try clear hfz2; try clear hfl2; try clear hb2; try clear hbc2; try clear hbl2; try clear htl2; try clear hts2; try clear hLen; try clear hw1; try clear k1; try clear s1; try clear r0; try clear r1; try clear hz0; try clear hz1; try clear k2; try clear k02; try clear kb; try clear ta; try clear q0; try clear k03; try clear k4; try clear kc; try clear tb; try clear k24; try clear k34; try clear hz2; try clear hz01; try clear u0; try clear u1; try clear u2; try clear rS3; try clear rI3; try clear rT3; try clear rS4; try clear rI4; try clear rT4; try clear x0; try clear x1; try clear x2; try clear x3; try clear x4; try clear y0; try clear y1; try clear y2; try clear y3; try clear y4; try clear p0; try clear p1; try clear p2; try clear p3; try clear p4; try clear q1; try clear q2; try clear q3; try clear q4; try clear LV; try clear hAB; try clear hR7; try clear hR8; try clear KD; try clear kA; try clear kB; try clear kC; try clear kD; try clear kE; try clear kF; try clear kG; try clear kH; try clear ka; try clear kb'; try clear kc'; try clear kd; try clear ke; try clear kf; try clear kg; try clear kh; try clear rS7; try clear rI7; try clear rT7; try clear rS8; try clear rI8; try clear rT8; try clear hkc; try clear d0; try clear d1; try clear dc; try clear df; try clear hln; try clear X1b; try clear hX1; try clear kX; try clear hfit; try clear hMl; try clear hz; try clear k6; try clear tt; try clear tcb; try clear kq; try clear kr7; try clear k8; try clear rdd; try clear hCT; try clear ke; try clear tdb; try clear hz6; try clear hz7; try clear k79; try clear c9; try clear t9; try clear rc9; try clear rd9; try clear c90; try clear c91; try clear t90; try clear t91; try clear kr9; try clear k10; try clear k05; try clear kwH; try clear hcc; try clear hcd; try clear rc
        by_cases hk2 : k < ts2.length
        · have hkc2 : (k : Int) < (ts2.length : Int) := by omega
          have hgd : decide ((k : Int) < (ts2.length : Int)) = true := decide_eq_true hkc2
          obtain ⟨b2, o2, na2, nc2, rfl, g0, g1, gn, gc, gl, gf⟩ := (ht2.keep kwr10) k hk2
          generalize (ts2.getD k (0, [])).1 = out2 at *
          generalize (ts2.getD k (0, [])).2 = L2 at *
          have hA1 := fun (wx : World) (kk : Keep w10 wx) => Alike_any na na2 nc nc2 out out2 L L2 wx dl (dn.keep (kr10.trans kk)) (gn.keep kk)
          have hA2 := fun (wx : World) (kk : Keep w10 wx) => rAlike_any na na2 nc nc2 out out2 L L2 wx dl (dn.keep (kr10.trans kk)) (gn.keep kk)
          generalize @decide (out = out2 ∧ L = L2) (Classical.propDecidable _) = d2 at hA1 hA2
          clear ht1 ht2 kwr kwr10 dn dl gn gc gl gf
          have T0 := mk6 KD2 (KD2.cell z4) (KD2.cell v0) (KD2.cell v1) (KD2.cell g0) (KD2.cell g1)
          cases d2
          all_goals
            go_region_held3 (fun wx => Keep w10 wx ∧ wx.cell? ⟨se + 1, 4, none⟩ = some (Value.slice (some ⟨b2, o2, none⟩) ts2.length ct2) ∧ wx.cell? ⟨wr.heap.size, 0, none⟩ = some (Value.int IntKind.i64 out) ∧ wx.cell? ⟨wr.heap.size, 1, none⟩ = some (Value.slice na L.length nc) ∧ wx.cell? ⟨b2, o2 + k * 2, none⟩ = some (Value.int .i64 out2) ∧ wx.cell? ⟨b2, o2 + k * 2 + 1, none⟩ = some (Value.slice na2 L2.length nc2)) (first | with_reducible exact T0 | with_reducible exact T2 | with_reducible exact T1) (first | (go_at_call 39; refine (hA2 _ kz1).mono ?_; rintro e wZ ⟨rfl, kz⟩; have kz2 := kz1.trans kz; have T2 := mk6 kz2 (kz2.cell z4) (kz2.cell v0) (kz2.cell v1) (kz2.cell g0) (kz2.cell g1)) | (go_at_call 40; refine (hA1 _ KD2).mono ?_; rintro e wY ⟨rfl, ky⟩; have kz1 := KD2.trans ky; have T1 := mk6 kz1 (kz1.cell z4) (kz1.cell v0) (kz1.cell v1) (kz1.cell g0) (kz1.cell g1)))
            go_simp
            go_wp2_with fail
            exact ⟨⟨k + 1, by omega, by go_num, kw.trans (kr10.trans kz2)⟩, by simp [intOf]; omega⟩
        · have hkc2 : ¬ (k : Int) < (ts2.length : Int) := by omega
          have hgd : decide ((k : Int) < (ts2.length : Int)) = false := decide_eq_false hkc2
          clear ht1 ht2 kwr kwr10 dn dl
          have T0 := And.intro KD2 (KD2.cell z4)
          clear KD2 T0
          go_quiet (fail)
          all_goals
            go_simp
            go_wp2_with fail
            exact ⟨⟨k + 1, by omega, by go_num, kw.trans (kr10.trans ((Keep.refl w10).drewN _))⟩, by simp [intOf]; omega⟩
      · have hkc : ¬ (k : Int) < (ts1.length : Int) := by omega
        go_wp2_with fail
        go_ret
        exact ⟨rfl, kwr⟩
end Go.Proofs.Ytbchinfmdioijaa
