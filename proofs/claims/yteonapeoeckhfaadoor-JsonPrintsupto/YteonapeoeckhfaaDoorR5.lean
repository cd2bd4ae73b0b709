import Derived.Test.YteonapeoeckhfaaDoorR4
import Derived.Test.YteonapeoeckhfaaDoorG14
import Derived.Deep.RegionHeld3
set_option linter.unusedVariables false
set_option linter.unusedSimpArgs false
namespace Go.Proofs.YteonapeoeckhfaaDoor
open Go.RowKit Go.Shelf
set_option maxRecDepth 100000 in
set_option maxHeartbeats 8000000 in
theorem law_prints (hI : IxC) (j : J) (v : Value) (w : World) (hv : RdV w v j) (hbl : blk j ≤ 1048576) (hT : UT w) :
    Calls Tryd.prog 4 #[v] w fun e w' => e = .returned (.bool true) ∧ Keep w w' := by
  obtain ⟨k, t, an, n, cn, ai, m, ci, rfl⟩ := hv.agg
  have hft : FT j := FT_of _ j (Nat.le_refl _) hbl
  have ka := (Keep.refl w).alloc (Obj.cells #[.int .u8 (k : Nat), .string t, .slice an n cn, .slice ai m ci] 27)
  have hb : Bv (w.alloc (Obj.cells #[.int .u8 (k : Nat), .string t, .slice an n cn, .slice ai m ci] 27)) w.heap.size (.agg #[.int .u8 (k : Nat), .string t, .slice an n cn, .slice ai m ci]) := ⟨_, _, _, _, rfl, heap_alloc_new w _⟩
  have hC := rCopy_in _ j _ _ (Nat.le_refl _) (hv.keep ka) (Fit_of _ j (Nat.le_refl _) hbl)
  have hT0 := hT.keep ka
  clear hT
  go_enter Tryd.func4, Tryd.ntmps4
  go_wp2_with (go_at_call 12; refine hC.mono ?_; clear hC; rintro e w2 ⟨v2, rfl, h2, k2⟩; have h2 := h2.rdv; obtain ⟨p1, p2, p3, p4, p5, p6, p7, p8, rfl⟩ := h2.agg)
  have kb : Keep w2 (w2.alloc (Obj.cells #[.int .u8 (p1 : Nat), .string p2, .slice p3 p4 p5, .slice p6 p7 p8] 27)) := (Keep.refl w2).alloc _
  have hb2 : Bv (w2.alloc (Obj.cells #[.int .u8 (p1 : Nat), .string p2, .slice p3 p4 p5, .slice p6 p7 p8] 27)) w2.heap.size (.agg #[.int .u8 (p1 : Nat), .string p2, .slice p3 p4 p5, .slice p6 p7 p8]) := ⟨_, _, _, _, rfl, heap_alloc_new w2 _⟩
  have h3 := h2.keep kb
  have k03 := ka.trans (k2.trans kb)
  have hb1 := hb.keep (k2.trans kb)
  have hT3 := hT0.keep (k2.trans kb)
  have hv3 := hv.keep k03
  clear hb h2 hv hT0 k2 ka kb
  generalize w2.alloc (Obj.cells #[.int .u8 (p1 : Nat), .string p2, .slice p3 p4 p5, .slice p6 p7 p8] 27) = w3 at *
  refine (Print_any hI j _ w3 h3 hft hT3).mono ?_
  rintro e w4 ⟨⟨bv, rfl, hbv⟩, k4⟩
  have hB1 : BV w4 bv (pt j) := BV.of_own hbv
  obtain ⟨ba, bc, rfl, -⟩ := hB1
  have hB1 : BV w4 (.slice ba (pt j).length bc) (pt j) := BV.of_own hbv
  obtain ⟨X0, X1, X2, X3⟩ := (hb1.keep k4).cells
  have hR := rPrint_any j _ w4 (hv3.keep k4) hbl
  clear hbv
  go_wp2_with (go_at_call 14; refine hR.mono ?_; clear hR; rintro e w5 ⟨⟨bv2, rfl, hB2⟩, k5⟩)
  have hB1 := hB1.keep k5
  obtain ⟨ba2, bc2, rfl, hrd2⟩ := hB2
  have hB2 : BV w5 (.slice ba2 (pt j).length bc2) (pt j) := ⟨_, _, rfl, hrd2⟩
  have k45 := k4.trans k5
  have k05 := k03.trans k45
  have X0 := k5.cell X0
  have X1 := k5.cell X1
  have X2 := k5.cell X2
  have X3 := k5.cell X3
  obtain ⟨P0, P1, P2, P3⟩ := (hb2.keep k45).cells
  have hCk := fun (wx : World) (kk : Keep w5 wx) => Check_any hI j _ wx ((h3.keep k45).keep kk) hft ((hT3.keep k45).keep kk)
  have hRc := fun (wx : World) (kk : Keep w5 wx) => rCheck_any j _ wx ((hv3.keep k45).keep kk) hbl
  have hSm := fun (wx : World) (kk : Keep w5 wx) => rSame_in _ j j _ _ wx (Nat.le_refl _) ((h3.keep k45).keep kk) ((hv3.keep k45).keep kk)
  simp only [eqJ_true] at hSm
  have hcv1 := fun (wx : World) (kk : Keep w5 wx) => (hB1.keep kk).conv
  have hcv2 := fun (wx : World) (kk : Keep w5 wx) => (hB2.keep kk).conv
  clear hrd2 hB1 hB2 h3 hv3 hT3 hb1 hb2 k4 k5 k45 k03 hbl hft hI
  generalize (pt j).length = bl at *
  generalize pt j = BT at *
  generalize chk j = CK at *
  generalize pe j = PEj at *
  generalize w2.heap.size = sb at *
  generalize w.heap.size = sa at *
  have KD : Keep w5 w5.drew := (Keep.refl w5).drew
  have SK0 : Keep w5 w5.drew ∧ _ ∧ _ ∧ _ ∧ _ ∧ _ ∧ _ ∧ _ ∧ _ := ⟨KD, KD.cell X0, KD.cell X1, KD.cell X2, KD.cell X3, KD.cell P0, KD.cell P1, KD.cell P2, KD.cell P3⟩
  go_region_held3 (fun wx => Keep w5 wx ∧ wx.cell? ⟨sa, 0, none⟩ = some (.int .u8 (k : Nat)) ∧ wx.cell? ⟨sa, 1, none⟩ = some (.string t) ∧ wx.cell? ⟨sa, 2, none⟩ = some (.slice an n cn) ∧ wx.cell? ⟨sa, 3, none⟩ = some (.slice ai m ci) ∧ wx.cell? ⟨sb, 0, none⟩ = some (.int .u8 (p1 : Nat)) ∧ wx.cell? ⟨sb, 1, none⟩ = some (.string p2) ∧ wx.cell? ⟨sb, 2, none⟩ = some (.slice p3 p4 p5) ∧ wx.cell? ⟨sb, 3, none⟩ = some (.slice p6 p7 p8)) (first | with_reducible exact SK0 | with_reducible exact SK3 | with_reducible exact SK2 | with_reducible exact SK1) (first
    | (go_at_call 11; refine (hSm _ kB).mono ?_; rintro e wC ⟨rfl, kc⟩; have kC := kB.trans kc; have SK3 := And.intro kC (And.intro (kC.cell X0) (And.intro (kC.cell X1) (And.intro (kC.cell X2) (And.intro (kC.cell X3) (And.intro (kC.cell P0) (And.intro (kC.cell P1) (And.intro (kC.cell P2) (kC.cell P3)))))))))
    | (go_at_call 16; refine (hRc _ kA).mono ?_; rintro e wB ⟨rfl, kb⟩; have kB := kA.trans kb; have cv1 := hcv1 wB kB; have cv2 := hcv2 wB kB; have SK2 := And.intro kB (And.intro (kB.cell X0) (And.intro (kB.cell X1) (And.intro (kB.cell X2) (And.intro (kB.cell X3) (And.intro (kB.cell P0) (And.intro (kB.cell P1) (And.intro (kB.cell P2) (kB.cell P3)))))))))
    | (go_at_call 15; refine (hCk _ KD).mono ?_; rintro e wA ⟨rfl, ka⟩; have kA := KD.trans ka; have SK1 := And.intro kA (And.intro (kA.cell X0) (And.intro (kA.cell X1) (And.intro (kA.cell X2) (And.intro (kA.cell X3) (And.intro (kA.cell P0) (And.intro (kA.cell P1) (And.intro (kA.cell P2) (kA.cell P3))))))))))
  all_goals
    go_simp
    go_wp2_with fail
    go_ret
    exact ⟨rfl, k05.trans kC⟩
end Go.Proofs.YteonapeoeckhfaaDoor
