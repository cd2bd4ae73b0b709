import Derived.Test.YtbchinfmdioijaaS37
import Derived.Test.YtbchinfmdioijaaS18
import Derived.BigQuiet
import Derived.BigRegion
set_option linter.unusedVariables false
set_option linter.unusedSimpArgs false
namespace Go.Proofs.Ytbchinfmdioijaa
open Go.RowKit Go.Shelf
attribute [local go_sem] run_store_float
set_option maxRecDepth 100000 in
set_option maxHeartbeats 4000000 in
theorem law_one (a ax : Option Addr) (cap cx : Nat) (out : Int) (L : List Nd) (xs : List Nat) (hLn : L.length ≤ 2199023255552) (hxl : xs.length ≤ 17592186044416) (w : World) (hrd : RdN w a L) (hxd : RdF w ax xs) :
    Calls Try.prog 8 #[.agg #[.int .i64 out, .slice a L.length cap], .slice ax xs.length cx] w fun e w' => e = .returned (.bool true) ∧ Keep w w' := by
  have hWy := fun (wx : World) (k : Keep w wx) => Way_any a ax cap cx out L xs hLn hxl wx (hrd.keep k) (hxd.keep k)
  have hLf := fun (wx : World) (k : Keep w wx) => Leaf_any a ax cap cx out L xs hLn hxl wx (hrd.keep k) (hxd.keep k)
  have hLv := fun (wx : World) (k : Keep w wx) => Leaves_any a cap out L hLn wx (hrd.keep k)
  have hCn := fun (wx : World) (k : Keep w wx) => Canon_any a cap out L hLn wx (hrd.keep k)
  have k0 : Keep w (w.alloc (Obj.cells #[Value.int IntKind.i64 out, Value.slice a L.length cap] 24)) := (Keep.refl w).alloc _
  have tb : (w.alloc (Obj.cells #[Value.int IntKind.i64 out, Value.slice a L.length cap] 24)).heap[w.heap.size]? = some (Obj.cells #[Value.int IntKind.i64 out, Value.slice a L.length cap] 24 (0, 0)) := heap_alloc_new w _
  have LV := lives_any
  replace tb : Hid _ := tb
  go_enter Try.func8, Try.ntmps8
  go_wp2_with fail
  generalize w.alloc _ = w1 at k0 tb ⊢
  refine (LV _).mono ?_
  rintro e w2 ⟨rfl, k2⟩
  have k02 := k0.trans k2
  have hz1 : w.heap.size < w1.heap.size := (Array.getElem?_eq_some_iff.1 tb.out).1
  have tb2 := (k2.block _ hz1).trans tb.out
  have b0 := cell_of_row _ _ 0 _ 24 (0, 0) tb2
  have b1 := cell_of_row _ _ 1 _ 24 (0, 0) tb2
  simp only [List.getElem?_toArray, List.getElem?_cons_zero, List.getElem?_cons_succ] at b0 b1
  clear tb2 tb hz1
  generalize w.heap.size = s at b0 b1 ⊢
  go_wp2_with fail
  refine (hWy _ k02).mono ?_
  rintro e w3 ⟨v, rfl, ow, -, k3⟩
  have k03 := k02.trans k3
  have b0 := k3.cell b0
  have b1 := k3.cell b1
  go_wp2_with fail
  refine (hLf _ k03).mono ?_
  rintro e w4 ⟨rfl, k4⟩
  have k04 := k03.trans k4
  have b0 := k4.cell b0
  have b1 := k4.cell b1
  clear hWy hLf LV
  by_cases hE : wyE L xs.length = 0
  · have hA := cno_all hE
    have hL := wy_last hE
    have hW := wy_len hE
    have hW0 := wy_hd hE
    have hWl := fun j => wy_lt hE j
    have hWa := fun j hj => wy_at hE (j := j) hj
    obtain ⟨hMl, hS, hE2, hK2, hV2, hS2, hM2, hO2, hO1⟩ := hA
    obtain ⟨g, cg, rfl, hcg, hg, cw⟩ := ow.cells hW.1
    rw [hE]
    have cw : ∀ j, j < (wyL L xs).length → w4.cell? ⟨g, j, none⟩ = some (.int .i64 ((wyL L xs).getD j 0 : Nat)) := fun j hj => k4.cell (cw j hj)
    generalize wyL L xs = W at *
    go_wp2_with fail
    refine (hLv _ k04).mono ?_
    rintro e w5 ⟨v2, rfl, ow2, -, k5⟩
    rw [hS]
    obtain ⟨gl, cl, rfl, hcl, hgl, cv⟩ := ow2.cells (by omega)
    generalize lvs L = V at *
    have k05 := k04.trans k5
    have b0 := k5.cell b0
    have b1 := k5.cell b1
    have cw : ∀ j, j < W.length → w5.cell? ⟨g, j, none⟩ = some (.int .i64 (W.getD j 0 : Nat)) := fun j hj => k5.cell (cw j hj)
    have cw0 : w5.cell? ⟨g, 0, none⟩ = some (.int .i64 ((0 : Nat) : Int)) := by have h := cw 0 hW.1; rw [hW0] at h; exact h
    generalize lfK L xs = K at *
    generalize lfV L xs = U at *
    have f1 : ((W.length : Int) == 0) = false := by rw [beq_eq_false_iff_ne]; omega
    have f2 : decide ((K : Int) < 0) = false := decide_eq_false (by omega)
    have f3 : decide ((V.length : Int) ≤ (K : Int)) = false := decide_eq_false (by omega)
    have hKV : K < V.length := hL.2.2.1
    have f4 : decide (V.length ≤ K) = false := decide_eq_false (by omega)
    replace hW0 : Hid _ := hW0
    replace cw : Hid _ := cw
    replace cv : Hid _ := cv
    replace hWa : Hid _ := hWa
    replace hL : Hid _ := hL
    replace hE : Hid _ := hE
    replace hS : Hid _ := hS
    replace hMl : Hid _ := hMl
    replace hE2 : Hid _ := hE2
    replace hK2 : Hid _ := hK2
    replace hV2 : Hid _ := hV2
    replace hS2 : Hid _ := hS2
    replace hM2 : Hid _ := hM2
    replace hO2 : Hid _ := hO2
    replace hO1 : Hid _ := hO1
    clear hLv ow ow2 hg hgl hcg hcl
    go_wp2_with fail
    go_loopw [12] (fun iv wr => ∃ i : Nat, i < W.length ∧ iv = .int .i64 i ∧ Keep w5 wr) (fun iv _ => W.length - (intOf iv).toNat)
    case atStart => exact ⟨0, hW.1, rfl, Keep.refl w5⟩
    case round =>
      obtain ⟨i, hi, rfl, kw⟩ := hrel
      have k0r := k05.trans kw
      have b0 := kw.cell b0
      have b1 := kw.cell b1
      by_cases hil : i + 1 < W.length
      · have hic : ((i : Int) + 1 < (W.length : Int)) := by omega
        have hnx := hWa.out i hil
        have ci := kw.cell (cw.out i hi)
        have ci1 := kw.cell (cw.out (i + 1) hil)
        have hjl := hWl i
        obtain ⟨b, o, ca, cp, rfl, hN⟩ := (hrd.keep k0r) _ hjl
        obtain ⟨n0, n1, n2, n3, n4, n5, n6, n7, nr, nc, nl, nf⟩ := hN
        generalize L.getD (W.getD i 0) nd0 = N at *
        generalize W.getD i 0 = j at *
        generalize W.getD (i + 1) 0 = j' at *
        obtain ⟨ft, hft⟩ := Int.eq_ofNat_of_zero_le hnx.1
        have hftl : ft < xs.length := by omega
        obtain ⟨bx, ox, rfl, cx1⟩ := (hxd.keep k0r) ft hftl
        have hnx2 := hnx.2.2
        rw [hft, Int.toNat_natCast] at hnx2
        generalize xs.getD ft 0 = x at cx1 hnx2
        have hG := fun (wx : World) (k : Keep wr wx) => Goes_any N ca cp x wx (nr.keep k) nl nc
        unfold Nd.v at hG
        rw [hft] at hG
        have hb : b < wr.heap.size := World.block_lt_of_cell? _ _ n0
        have hgw : g < wr.heap.size := World.block_lt_of_cell? _ _ ci
        have hsw : s < wr.heap.size := World.block_lt_of_cell? _ _ b1
        replace hnx2 : Hid _ := hnx2
        clear hCn hWl hWa cw cv hL hE hS hMl hE2 hK2 hV2 hS2 hM2 hO1 hO2 hW0 cw0 hnx nf
        obtain ⟨wN, hwN, kN, mN⟩ : ∃ wN, (wr.alloc (Obj.cells #[Value.int IntKind.u8 N.kd, Value.int IntKind.i64 N.vl, Value.int IntKind.i64 (ft : Nat), Value.float FloatKind.f64 N.th, Value.slice ca N.cs.length cp, Value.int IntKind.u8 N.ms, Value.int IntKind.i64 N.lf, Value.int IntKind.i64 N.rt] 40)).drew = wN ∧ Keep wr wN ∧ wN.heap[wr.heap.size]? = some (Obj.cells #[Value.int IntKind.u8 N.kd, Value.int IntKind.i64 N.vl, Value.int IntKind.i64 (ft : Nat), Value.float FloatKind.f64 N.th, Value.slice ca N.cs.length cp, Value.int IntKind.u8 N.ms, Value.int IntKind.i64 N.lf, Value.int IntKind.i64 N.rt] 40 (0, 0)) := ⟨_, rfl, ((Keep.refl wr).alloc _).drew, heap_alloc_new wr _⟩
        have m0 := cell_of_row _ _ 0 _ 40 (0, 0) mN
        have m1 := cell_of_row _ _ 1 _ 40 (0, 0) mN
        have m2 := cell_of_row _ _ 2 _ 40 (0, 0) mN
        have m3 := cell_of_row _ _ 3 _ 40 (0, 0) mN
        have m4 := cell_of_row _ _ 4 _ 40 (0, 0) mN
        have m5 := cell_of_row _ _ 5 _ 40 (0, 0) mN
        have m6 := cell_of_row _ _ 6 _ 40 (0, 0) mN
        have m7 := cell_of_row _ _ 7 _ 40 (0, 0) mN
        simp only [List.getElem?_toArray, List.getElem?_cons_zero, List.getElem?_cons_succ] at m0 m1 m2 m3 m4 m5 m6 m7
        clear mN
        replace hwN : Hid _ := hwN
        go_wp2_with fail
        go_region
        rw [hft] at n2
        rw [hwN.out]
        have cx1 := kN.cell cx1
        have ci1 := kN.cell ci1
        clear n0 n1 n2 n3 n4 n5 n6 n7 b0 b1 ci hwN hb hgw hsw
        generalize wr.heap.size = sn at m0 m1 m2 m3 m4 m5 m6 m7 ⊢
        go_simp
        go_wp2_with fail
        go_region_with (go_at_call 22; refine (hG _ (kN.drew)).mono ?_; rintro e wG ⟨rfl, kG⟩)
        all_goals
          go_simp
          have kGG := kN.drew.trans kG
          have kNG := (Keep.refl wN).drew.trans kG
          have ci1 := kNG.cell ci1
          have m6 := kNG.cell m6
          have m7 := kNG.cell m7
          clear hG kN kG
          rcases hnx2.out with ⟨hg, hlf⟩ | ⟨hg, hrt⟩
          · rw [hg]
            rw [hlf] at m6
            clear hlf hg hnx2
            go_wp2_with fail
            go_quiet (fail)
            go_simp
            go_wp2_with fail
            exact ⟨⟨i + 1, hil, by go_num, kw.trans (kGG.drewN _)⟩, by simp [intOf]; omega⟩
          · rw [hg]
            rw [hrt] at m7
            clear hrt hg hnx2
            go_wp2_with fail
            go_quiet (fail)
            go_simp
            go_wp2_with fail
            exact ⟨⟨i + 1, hil, by go_num, kw.trans (kGG.drewN _)⟩, by simp [intOf]; omega⟩
      · have hic : ¬ ((i : Int) + 1 < (W.length : Int)) := by omega
        have him : W.length - 1 = i := by omega
        have hsub : (W.length : Int) - 1 = (i : Int) := by omega
        have hL2 := hL.out
        rw [him] at hL2
        have ci := kw.cell (cw.out i hi)
        have cK := kw.cell (cv.out K hKV)
        rw [hL2.2.2.2] at cK
        have hjl := hWl i
        obtain ⟨b, o, ca, cp, e1, hN⟩ := (hrd.keep k0r) _ hjl
        obtain ⟨n0, n1, n2, n3, n4, n5, n6, n7, nr, nc, nl, nf⟩ := hN
        have hCn := hCn
        subst e1
        rw [hL2.1] at n0
        rw [hL2.2.1] at n1
        clear hL hL2
        generalize L.getD (W.getD i 0) nd0 = N at *
        generalize W.getD i 0 = j at *
        have hb : b < wr.heap.size := World.block_lt_of_cell? _ _ n0
        have hgw : g < wr.heap.size := World.block_lt_of_cell? _ _ ci
        have hsw : s < wr.heap.size := World.block_lt_of_cell? _ _ b1
        obtain ⟨wN, hwN, kN, mN⟩ : ∃ wN, (wr.alloc (Obj.cells #[Value.int IntKind.u8 1, Value.int IntKind.i64 U, Value.int IntKind.i64 N.ft, Value.float FloatKind.f64 N.th, Value.slice ca N.cs.length cp, Value.int IntKind.u8 N.ms, Value.int IntKind.i64 N.lf, Value.int IntKind.i64 N.rt] 40)).drew = wN ∧ Keep wr wN ∧ wN.heap[wr.heap.size]? = some (Obj.cells #[Value.int IntKind.u8 1, Value.int IntKind.i64 U, Value.int IntKind.i64 N.ft, Value.float FloatKind.f64 N.th, Value.slice ca N.cs.length cp, Value.int IntKind.u8 N.ms, Value.int IntKind.i64 N.lf, Value.int IntKind.i64 N.rt] 40 (0, 0)) := ⟨_, rfl, ((Keep.refl wr).alloc _).drew, heap_alloc_new wr _⟩
        have m0 := cell_of_row _ _ 0 _ 40 (0, 0) mN
        have m1 := cell_of_row _ _ 1 _ 40 (0, 0) mN
        simp only [List.getElem?_toArray, List.getElem?_cons_zero, List.getElem?_cons_succ] at m0 m1
        replace hwN : Hid _ := hwN
        clear mN hWl hWa cw cv cw0 nf nr nc nl
        go_wp2_with fail
        go_region
        rw [hwN.out]
        have ci := kN.cell ci
        have cK := kN.cell cK
        have b0 := kN.cell b0
        have b1 := kN.cell b1
        have k0n := k0r.trans kN
        clear n0 n1 n2 n3 n4 n5 n6 n7 hwN hb hgw hsw
        generalize wr.heap.size = sn at m0 m1 ⊢
        go_simp
        go_wp2_with fail
        go_quiet (fail)
        go_simp
        go_wp2_with fail
        have kq : Keep wN (wN.drewN nq) := (Keep.refl wN).drewN _
        have b1 := kq.cell b1
        refine (hCn _ (k0n.trans kq)).mono ?_
        rintro e wC ⟨ac, cc, rfl, hcc, rc, kC, -⟩
        have hNl := cnoN_len L hLn
        have hML := hMl.out
        rw [hS.out, hO1.out]
        have hE2 := hE2.out
        have hK2 := hK2.out
        have hV2 := hV2.out
        have hS2 := hS2.out
        have hM2 := hM2.out
        have hO2 := hO2.out
        have b1 := kC.cell b1
        have k0C := (k0n.trans kq).trans kC
        clear ci cK m0 m1 kN k0n kq kC b0 hE hS
        generalize cnoN L = M at *
        have hCc := fun (wx : World) (k : Keep wC wx) => Canon_any ac cc out M hNl wx (rc.keep k)
        have hLc := fun (wx : World) (k : Keep wC wx) => Leaf_any ac (ax) cc cx out M xs hNl hxl wx (rc.keep k) ((hxd.keep k0C).keep k)
        rw [hS2, hM2, hO2] at hCc
        rw [hE2, hK2, hV2] at hLc
        obtain ⟨wD, hwD, kD, mD⟩ : ∃ wD, wC.alloc (Obj.cells #[Value.int IntKind.i64 out, Value.slice ac M.length cc] 24) = wD ∧ Keep wC wD ∧ wD.heap[wC.heap.size]? = some (Obj.cells #[Value.int IntKind.i64 out, Value.slice ac M.length cc] 24 (0, 0)) := ⟨_, rfl, (Keep.refl wC).alloc _, heap_alloc_new wC _⟩
        have d0 := cell_of_row _ _ 0 _ 24 (0, 0) mD
        have d1 := cell_of_row _ _ 1 _ 24 (0, 0) mD
        simp only [List.getElem?_toArray, List.getElem?_cons_zero, List.getElem?_cons_succ] at d0 d1
        have b1 := kD.cell b1
        clear mD hMl hS2 hM2 hO2 hE2 hK2 hV2 hO1
        replace hwD : Hid _ := hwD
        replace hML : Hid _ := hML
        go_wp2_with fail
        rw [hwD.out]
        generalize wC.heap.size = sc at d0 d1 ⊢
        refine (hLc _ kD).mono ?_
        rintro e wE ⟨rfl, kE⟩
        have d0 := kE.cell d0
        have d1 := kE.cell d1
        have b1 := kE.cell b1
        have kDE := kD.trans kE
        go_wp2_with fail
        refine (hCc _ kDE).mono ?_
        rintro e wF ⟨af, cf, rfl, hcf, rf, kF, -⟩
        obtain ⟨wG, hwG, kG, mG⟩ : ∃ wG, wF.alloc (Obj.cells #[Value.int IntKind.i64 out, Value.slice af M.length cf] 24) = wG ∧ Keep wF wG ∧ wG.heap[wF.heap.size]? = some (Obj.cells #[Value.int IntKind.i64 out, Value.slice af M.length cf] 24 (0, 0)) := ⟨_, rfl, (Keep.refl wF).alloc _, heap_alloc_new wF _⟩
        have e0 := cell_of_row _ _ 0 _ 24 (0, 0) mG
        have e1 := cell_of_row _ _ 1 _ 24 (0, 0) mG
        simp only [List.getElem?_toArray, List.getElem?_cons_zero, List.getElem?_cons_succ] at e0 e1
        have kFG := kF.trans kG
        have d0 := kFG.cell d0
        have d1 := kFG.cell d1
        have b1 := kFG.cell b1
        have k0G := k0C.trans (kDE.trans kFG)
        have hAl := Alike_same ac af cc cf out M wG hNl (rc.keep (kDE.trans kFG)) (rf.keep kG)
        rw [← hwG] at d0 d1 b1
        replace hwG : Hid _ := hwG
        clear mG hCc hLc e0 e1
        go_wp2_with fail
        rw [hwG.out] at d0 d1 b1 ⊢
        refine hAl.mono ?_
        rintro e wH ⟨rfl, kH⟩
        have d1 := kH.cell d1
        have b1 := kH.cell b1
        rw [hML.out] at d1
        go_wp2_with fail
        go_ret
        exact ⟨ret_bool (by simp), k0G.trans kH⟩
  · have hne : (wyE L xs.length == 0) = false := by rw [beq_eq_false_iff_ne]; exact hE
    have hnil : wyL L xs = [] := if_neg hE
    rw [hnil] at ow
    obtain ⟨av, cv, rfl, -⟩ := ow.shape
    generalize wyE L xs.length = E at *
    go_wp2_with fail
    go_ret
    exact ⟨ret_bool (by simp), k04⟩
end Go.Proofs.Ytbchinfmdioijaa
