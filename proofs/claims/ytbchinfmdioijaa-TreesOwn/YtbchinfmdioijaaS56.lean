import Derived.Test.YtbchinfmdioijaaS55
import Derived.Test.YtbchinfmdioijaaS40
import Derived.BigQuiet
import Derived.BigRegion
set_option linter.unusedVariables false
set_option linter.unusedSimpArgs false
namespace Go.Proofs.Ytbchinfmdioijaa
open Go.RowKit Go.Shelf
set_option maxRecDepth 100000 in
set_option maxHeartbeats 8000000 in
theorem law_town (nm : ByteArray) (fa : Option Addr) (fs : List ByteArray) (cf : Nat) (N : Int) (ba : Option Addr) (bs : List Int) (cb : Nat) (ta : Option Addr) (ts : List (Int × List Nd)) (ct : Nat) (ax : Option Addr) (xs : List Nat) (cx : Nat) (w : World)
    (hnm : nm.size ≤ 281474976710656) (hf : RdS w fa fs) (hfz : ∀ j, j < fs.length → (fs.getD j ByteArray.empty).size ≤ 281474976710656) (hfl : fs.length ≤ 8796093022208) (hb : RdI w ba bs) (hbc : bs.length ≤ cb) (hbl : bs.length ≤ 17592186044416) (ht : RdT w ta ts) (htl : ts.length ≤ 4398046511104) (hts : ∀ j, j < ts.length → (ts.getD j (0, [])).2.length ≤ 1759218604441)
    (hxd : RdF w ax xs) (hxl : xs.length ≤ 17592186044416) :
    Calls Try.prog 10 #[ens nm fa fs.length cf N ba bs.length cb ta ts.length ct, .slice ax xs.length cx] w fun e w' => e = .returned (.bool true) ∧ Keep w w' := by
  have hSc := fun (wx : World) (k : Keep w wx) => Score_any nm fa fs.length cf N ba bs cb ta ts ct ax xs cx wx (hb.keep k) hbc hbl (ht.keep k) (by omega) (hxd.keep k) hxl (by omega)
  have hCs := fun (wx : World) (k : Keep w wx) => Copy_sp nm fa fs cf N ba bs cb ta ts ct wx hnm (hf.keep k) hfz hfl (hb.keep k) hbc hbl (ht.keep k) htl hts
  have hMs := fun (wx : World) (k : Keep w wx) => Model_sp nm fa fs cf N ba bs cb ta ts ct wx hnm (hf.keep k) hfz hfl (hb.keep k) hbc hbl (ht.keep k) htl hts
  have hMi := fun (wx : World) (k : Keep w wx) => rModel_in nm fa fs cf N ba bs cb ta ts ct wx (hf.keep k) hfl (hb.keep k) hbl (ht.keep k) htl hts
  have hCi := fun (wx : World) (k : Keep w wx) => rCopy_in nm fa fs cf N ba bs cb ta ts ct wx (hf.keep k) hfl (hb.keep k) hbl (ht.keep k) htl hts
  have hMd := fun (wx : World) (k : Keep w wx) => (Model_any nm fa fs cf N ba bs cb ta ts ct wx hnm (hf.keep k) hfz hfl (hb.keep k) hbc hbl (ht.keep k) htl).mono fun e w' h => ml_post h
  have k0 : Keep w (w.alloc (Obj.cells #[Value.string nm, Value.slice fa fs.length cf, Value.int IntKind.i64 N, Value.slice ba bs.length cb, Value.slice ta ts.length ct] 52)) := (Keep.refl w).alloc _
  have tb : (w.alloc (Obj.cells #[Value.string nm, Value.slice fa fs.length cf, Value.int IntKind.i64 N, Value.slice ba bs.length cb, Value.slice ta ts.length ct] 52)).heap[w.heap.size]? = some (Obj.cells #[Value.string nm, Value.slice fa fs.length cf, Value.int IntKind.i64 N, Value.slice ba bs.length cb, Value.slice ta ts.length ct] 52 (0, 0)) := heap_alloc_new w _
  have LV := lives_any
  replace tb : Hid _ := tb
  unfold ens at *
  go_enter Try.func10, Try.ntmps10
  go_wp2_with fail
  generalize w.alloc _ = w1 at k0 tb ⊢
  refine (LV _).mono ?_
  rintro e w2 ⟨rfl, k2⟩
  have k02 := k0.trans k2
  have hz1 : w.heap.size < w1.heap.size := (Array.getElem?_eq_some_iff.1 tb.out).1
  have tb2 := (k2.block _ hz1).trans tb.out
  have hz2 : w.heap.size < w2.heap.size := Nat.lt_of_lt_of_le hz1 k2.le
  have b0 := cell_of_row _ _ 0 _ 52 (0, 0) tb2
  have b1 := cell_of_row _ _ 1 _ 52 (0, 0) tb2
  have b2 := cell_of_row _ _ 2 _ 52 (0, 0) tb2
  have b3 := cell_of_row _ _ 3 _ 52 (0, 0) tb2
  have b4 := cell_of_row _ _ 4 _ 52 (0, 0) tb2
  simp only [List.getElem?_toArray, List.getElem?_cons_zero, List.getElem?_cons_succ] at b0 b1 b2 b3 b4
  have hz2 : Hid _ := hz2
  replace tb2 : Hid _ := tb2
  clear tb LV hz1
  go_wp2_with fail
  -- a := Copy(e)
  refine (hCs _ k02).mono ?_
  rintro e wA ⟨fa1, cf1, ba1, cb1, ta1, ct1, rfl, kA, nv1, nn1, MN1, bc1, hA1, hA2⟩
  obtain ⟨wa, hwa, ka, pa⟩ : ∃ wa, wA.alloc (Obj.cells #[Value.string nm, Value.slice fa1 fs.length cf1, Value.int IntKind.i64 N, Value.slice ba1 bs.length cb1, Value.slice ta1 ts.length ct1] 52) = wa ∧ Keep wA wa ∧ wa.heap[wA.heap.size]? = some (Obj.cells #[Value.string nm, Value.slice fa1 fs.length cf1, Value.int IntKind.i64 N, Value.slice ba1 bs.length cb1, Value.slice ta1 ts.length ct1] 52 (0, 0)) := ⟨_, rfl, (Keep.refl wA).alloc _, heap_alloc_new wA _⟩
  have k2a := kA.trans ka
  have c0 := k2a.cell b0
  have c1 := k2a.cell b1
  have c2 := k2a.cell b2
  have c3 := k2a.cell b3
  have c4 := k2a.cell b4
  have k0a := k02.trans k2a
  replace pa : Hid _ := pa
  go_wp2_with fail
  try rw [hwa]
  clear hwa c0 c1 c2 c3 c4
  -- b := Model(e)
  refine (hMs _ k0a).mono ?_
  rintro e wB ⟨fa2, cf2, ba2, cb2, ta2, ct2, rfl, kB, nv2, nn2, MN2, bc2, hB1, hB2⟩
  obtain ⟨wb, hwb, kb, pb⟩ : ∃ wb, wB.alloc (Obj.cells #[Value.string (mlN nm ts), Value.slice fa2 (mlF fs ts).length cf2, Value.int IntKind.i64 (mlO N ts), Value.slice ba2 (mlB bs ts).length cb2, Value.slice ta2 (mlT ts).length ct2] 52) = wb ∧ Keep wB wb ∧ wb.heap[wB.heap.size]? = some (Obj.cells #[Value.string (mlN nm ts), Value.slice fa2 (mlF fs ts).length cf2, Value.int IntKind.i64 (mlO N ts), Value.slice ba2 (mlB bs ts).length cb2, Value.slice ta2 (mlT ts).length ct2] 52 (0, 0)) := ⟨_, rfl, (Keep.refl wB).alloc _, heap_alloc_new wB _⟩
  have k2b := k2a.trans (kB.trans kb)
  have c0 := k2b.cell b0
  have c1 := k2b.cell b1
  have c2 := k2b.cell b2
  have c3 := k2b.cell b3
  have c4 := k2b.cell b4
  have k0b := k02.trans k2b
  replace pb : Hid _ := pb
  go_wp2_with fail
  try rw [hwb]
  clear hwb c0 c1 c2 c3 c4
  -- want := the reference's Model(e)
  refine (hMi _ k0b).mono ?_
  rintro e wC ⟨fa3, cf3, ba3, cb3, ta3, ct3, rfl, kC, hC1⟩
  obtain ⟨wc, hwc, kc, pc⟩ : ∃ wc, wC.alloc (Obj.cells #[Value.string (mlN nm ts), Value.slice fa3 (mlF fs ts).length cf3, Value.int IntKind.i64 (mlO N ts), Value.slice ba3 (mlB bs ts).length cb3, Value.slice ta3 (mlT ts).length ct3] 52) = wc ∧ Keep wC wc ∧ wc.heap[wC.heap.size]? = some (Obj.cells #[Value.string (mlN nm ts), Value.slice fa3 (mlF fs ts).length cf3, Value.int IntKind.i64 (mlO N ts), Value.slice ba3 (mlB bs ts).length cb3, Value.slice ta3 (mlT ts).length ct3] 52 (0, 0)) := ⟨_, rfl, (Keep.refl wC).alloc _, heap_alloc_new wC _⟩
  have k2c := k2b.trans (kC.trans kc)
  have c0 := k2c.cell b0
  have c1 := k2c.cell b1
  have c2 := k2c.cell b2
  have c3 := k2c.cell b3
  have c4 := k2c.cell b4
  have k0c := k02.trans k2c
  replace pc : Hid _ := pc
  go_wp2_with fail
  try rw [hwc]
  clear hwc c0 c1 c2 c3 c4
  -- c := the reference's Copy(e)
  refine (hCi _ k0c).mono ?_
  rintro e wD ⟨fa4, cf4, ba4, cb4, ta4, ct4, rfl, kD, hD1⟩
  obtain ⟨wd, hwd, kd, pd⟩ : ∃ wd, wD.alloc (Obj.cells #[Value.string nm, Value.slice fa4 fs.length cf4, Value.int IntKind.i64 N, Value.slice ba4 bs.length cb4, Value.slice ta4 ts.length ct4] 52) = wd ∧ Keep wD wd ∧ wd.heap[wD.heap.size]? = some (Obj.cells #[Value.string nm, Value.slice fa4 fs.length cf4, Value.int IntKind.i64 N, Value.slice ba4 bs.length cb4, Value.slice ta4 ts.length ct4] 52 (0, 0)) := ⟨_, rfl, (Keep.refl wD).alloc _, heap_alloc_new wD _⟩
  have kad : Keep wa wd := ((kB.trans kb).trans (kC.trans kc)).trans (kD.trans kd)
  have pad := (kad.block _ (Array.getElem?_eq_some_iff.1 pa.out).1).trans pa.out
  have a0 := cell_of_row _ _ 0 _ 52 (0, 0) pad
  have a1 := cell_of_row _ _ 1 _ 52 (0, 0) pad
  have a2 := cell_of_row _ _ 2 _ 52 (0, 0) pad
  have a3 := cell_of_row _ _ 3 _ 52 (0, 0) pad
  have a4 := cell_of_row _ _ 4 _ 52 (0, 0) pad
  simp only [List.getElem?_toArray, List.getElem?_cons_zero, List.getElem?_cons_succ] at a0 a1 a2 a3 a4
  replace pad : Hid _ := pad
  replace pd : Hid _ := pd
  go_wp2_with fail
  try rw [hwd]
  clear hwd a0 a1 a2 a3 a4
  -- a is spoilt
  have kAd : Keep wA wd := ka.trans kad
  have kbd : Keep wb wd := (kC.trans kc).trans (kD.trans kd)
  have kBd : Keep wB wd := kb.trans kbd
  have kcd : Keep wc wd := kD.trans kd
  have kCd : Keep wC wd := kc.trans kcd
  have k2d : Keep w2 wd := k2a.trans kad
  have sz : w2.heap.size ≤ wA.heap.size ∧ wA.heap.size < wa.heap.size ∧ wa.heap.size ≤ wB.heap.size ∧ wB.heap.size < wb.heap.size ∧ wb.heap.size ≤ wC.heap.size ∧ wC.heap.size < wc.heap.size ∧ wc.heap.size ≤ wD.heap.size ∧ wD.heap.size < wd.heap.size :=
    ⟨kA.le, (Array.getElem?_eq_some_iff.1 pa.out).1, kB.le, (Array.getElem?_eq_some_iff.1 pb.out).1, kC.le, (Array.getElem?_eq_some_iff.1 pc.out).1, kD.le, (Array.getElem?_eq_some_iff.1 pd.out).1⟩
  have hSa := spoil_oth (A := fun b => (w2.heap.size ≤ b ∧ b < wA.heap.size) ∨ wd.heap.size ≤ b) wd nm N fa1 ba1 ta1 fs.length cf1 bs.length cb1 ts.length ct1 _ _ _ nv1 nn1 MN1 bc1 (fun b hb => .inr hb) ((hA1.same (w' := wd) (fun b _ hb => kAd.block b hb)).mono (fun b hb => .inl hb)) hfl hbl htl hA2
  unfold ens at hSa
  refine hSa.mono ?_
  rintro e wE ⟨rfl, oE⟩
  have oE' : Oth (fun b => (w2.heap.size ≤ b ∧ b < wA.heap.size) ∨ (wa.heap.size ≤ b ∧ b < wB.heap.size)) wd wE := oE.mono (fun b hb h => by
    rcases h with h | h
    · exact .inl h
    · omega)
  have hB3 : SpB (fun b => wa.heap.size ≤ b ∧ b < wB.heap.size) wE _ _ _ _ _ _ _ nv2 nn2 MN2 bc2 := hB1.same (w' := wE) (fun b hb hlt => (oE.blk b (by omega) (by intro h; rcases h with h | h <;> omega)).trans (kBd.block b hlt))
  have pbE := ((oE.blk wB.heap.size (by omega) (by intro h; rcases h with h | h <;> omega)).trans (kbd.block _ (by omega))).trans pb.out
  have b0E := cell_of_row _ _ 0 _ 52 (0, 0) pbE
  have b1E := cell_of_row _ _ 1 _ 52 (0, 0) pbE
  have b2E := cell_of_row _ _ 2 _ 52 (0, 0) pbE
  have b3E := cell_of_row _ _ 3 _ 52 (0, 0) pbE
  have b4E := cell_of_row _ _ 4 _ 52 (0, 0) pbE
  simp only [List.getElem?_toArray, List.getElem?_cons_zero, List.getElem?_cons_succ] at b0E b1E b2E b3E b4E
  replace pbE : Hid _ := pbE
  obtain ⟨ml1, ml2, ml3⟩ := ml_len hfl hbl htl
  have hsE := oE.size
  go_wp2_with fail
  clear b0E b1E b2E b3E b4E pbE hSa
  have hSb := spoil_oth (A := fun b => (wa.heap.size ≤ b ∧ b < wB.heap.size) ∨ wE.heap.size ≤ b) wE (mlN nm ts) (mlO N ts) fa2 ba2 ta2 (mlF fs ts).length cf2 (mlB bs ts).length cb2 (mlT ts).length ct2 _ _ _ nv2 nn2 MN2 bc2 (fun b hb => .inr hb) (hB3.mono (fun b hb => .inl hb)) ml1 ml2 ml3 hB2
  unfold ens at hSb
  refine hSb.mono ?_
  rintro e wF ⟨rfl, oF⟩
  have oP : Oth (fun b => (w2.heap.size ≤ b ∧ b < wA.heap.size) ∨ (wa.heap.size ≤ b ∧ b < wB.heap.size)) wd wF := oE'.trans (oF.mono (fun b hb h => by
    rcases h with h | h
    · exact .inr h
    · omega))
  have k2F : Keep w2 wF := oP.keep k2d (fun b hb => by rcases hb with h | h <;> omega)
  have eW := hC1.same (w' := wF) (fun b hb => (oP.blk b (by omega) (by intro h; rcases h with h | h <;> omega)).trans (kCd.block b hb.2))
  have eC := hD1.same (w' := wF) (fun b hb => (oP.blk b (by omega) (by intro h; rcases h with h | h <;> omega)).trans (kd.block b hb.2))
  have pcF := ((oP.blk wC.heap.size (by omega) (by intro h; rcases h with h | h <;> omega)).trans (kcd.block _ (by omega))).trans pc.out
  have pdF := (oP.blk wD.heap.size (by omega) (by intro h; rcases h with h | h <;> omega)).trans pd.out
  have k0F := k02.trans k2F
  clear hSb hB3 oE oE' oF oP hA1 hA2 hB1 hB2 hC1 hD1 pa pb pc pd pad kAd kbd kBd kcd kCd k2d ka kb kc kd kA kB kC kD kad k2a k2b k2c k0a k0b k0c hsE
  replace pcF : Hid _ := pcF
  replace pdF : Hid _ := pdF
  have c0 := k2F.cell b0
  have c1 := k2F.cell b1
  have c2 := k2F.cell b2
  have c3 := k2F.cell b3
  have c4 := k2F.cell b4
  go_wp2_with fail
  clear c0 c1 c2 c3 c4
  -- d := Model(e)
  refine (hMd _ k0F).mono ?_
  rintro e wG ⟨fa5, cf5, ba5, cb5, ta5, ct5, rfl, rS5, rI5, rT5, kG⟩
  try unfold ens
  obtain ⟨wg, hwg, kg, pg⟩ : ∃ wg, wG.alloc (Obj.cells #[Value.string (mlN nm ts), Value.slice fa5 (mlF fs ts).length cf5, Value.int IntKind.i64 (mlO N ts), Value.slice ba5 (mlB bs ts).length cb5, Value.slice ta5 (mlT ts).length ct5] 52) = wg ∧ Keep wG wg ∧ wg.heap[wG.heap.size]? = some (Obj.cells #[Value.string (mlN nm ts), Value.slice fa5 (mlF fs ts).length cf5, Value.int IntKind.i64 (mlO N ts), Value.slice ba5 (mlB bs ts).length cb5, Value.slice ta5 (mlT ts).length ct5] 52 (0, 0)) := ⟨_, rfl, (Keep.refl wG).alloc _, heap_alloc_new wG _⟩
  have kFg := kG.trans kg
  have k2g := k2F.trans kFg
  have c0 := k2g.cell b0
  have c1 := k2g.cell b1
  have c2 := k2g.cell b2
  have c3 := k2g.cell b3
  have c4 := k2g.cell b4
  have pdg := (kFg.block _ (Array.getElem?_eq_some_iff.1 pdF.out).1).trans pdF.out
  have d0 := cell_of_row _ _ 0 _ 52 (0, 0) pdg
  have d1 := cell_of_row _ _ 1 _ 52 (0, 0) pdg
  have d2 := cell_of_row _ _ 2 _ 52 (0, 0) pdg
  have d3 := cell_of_row _ _ 3 _ 52 (0, 0) pdg
  have d4 := cell_of_row _ _ 4 _ 52 (0, 0) pdg
  simp only [List.getElem?_toArray, List.getElem?_cons_zero, List.getElem?_cons_succ] at d0 d1 d2 d3 d4
  replace pdg : Hid _ := pdg
  replace pg : Hid _ := pg
  have k0g := k02.trans k2g
  have eCg := eC.same (w' := wg) (fun b hb => kFg.block b (by have := (Array.getElem?_eq_some_iff.1 pdF.out).1; omega))
  obtain ⟨q1, q2, q3⟩ := eCg.rd
  have hR1 := rSame_self nm fa fs cf N ba bs cb ta ts ct fa4 cf4 ba4 cb4 ta4 ct4 wg (hf.keep k0g) hfl (hb.keep k0g) hbl (ht.keep k0g) htl q1 q2 q3
  unfold ens at hR1
  go_wp2_with fail
  try rw [hwg]
  clear hwg c0 c1 c2 c3 c4 d0 d1 d2 d3 d4
  refine hR1.mono ?_
  rintro e wH ⟨rfl, kH⟩
  have kgH : Keep wG wH := kg.trans kH
  have pgH := (kH.block _ (Array.getElem?_eq_some_iff.1 pg.out).1).trans pg.out
  have kFH : Keep wF wH := kG.trans kgH
  have pcH := (kFH.block _ (Array.getElem?_eq_some_iff.1 pcF.out).1).trans pcF.out
  have d0 := cell_of_row _ _ 0 _ 52 (0, 0) pgH
  have d1 := cell_of_row _ _ 1 _ 52 (0, 0) pgH
  have d2 := cell_of_row _ _ 2 _ 52 (0, 0) pgH
  have d3 := cell_of_row _ _ 3 _ 52 (0, 0) pgH
  have d4 := cell_of_row _ _ 4 _ 52 (0, 0) pgH
  have c0 := cell_of_row _ _ 0 _ 52 (0, 0) pcH
  have c1 := cell_of_row _ _ 1 _ 52 (0, 0) pcH
  have c2 := cell_of_row _ _ 2 _ 52 (0, 0) pcH
  have c3 := cell_of_row _ _ 3 _ 52 (0, 0) pcH
  have c4 := cell_of_row _ _ 4 _ 52 (0, 0) pcH
  simp only [List.getElem?_toArray, List.getElem?_cons_zero, List.getElem?_cons_succ] at c0 c1 c2 c3 c4 d0 d1 d2 d3 d4
  replace pgH : Hid _ := pgH
  replace pcH : Hid _ := pcH
  have eWH := eW.same (w' := wH) (fun b hb => kFH.block b (by have := (Array.getElem?_eq_some_iff.1 pcF.out).1; omega))
  obtain ⟨q4, q5, q6⟩ := eWH.rd
  have hR2 := rSame_self (mlN nm ts) fa5 (mlF fs ts) cf5 (mlO N ts) ba5 (mlB bs ts) cb5 ta5 (mlT ts) ct5 fa3 cf3 ba3 cb3 ta3 ct3 wH (rS5.keep kgH) ml1 (rI5.keep kgH) ml2 (rT5.keep kgH) ml3 q4 q5 q6
  unfold ens at hR2
  clear hR1 q1 q2 q3 eCg
  go_wp2_with fail
  clear d0 d1 d2 d3 d4 c0 c1 c2 c3 c4 pgH pcH eWH q4 q5 q6 rS5 rI5 rT5
  refine hR2.mono ?_
  rintro e wI ⟨rfl, kI⟩
  clear hR2 pcF pg kgH eW
  have kFI := kFH.trans kI
  have k2I := k2F.trans kFI
  have k0I := k02.trans k2I
  have pdI := (kFI.block _ (Array.getElem?_eq_some_iff.1 pdF.out).1).trans pdF.out
  have eC := eC.same (w' := wI) (fun b hb => kFI.block b (by have := (Array.getElem?_eq_some_iff.1 pdF.out).1; omega))
  have hcI : wD.heap.size < wI.heap.size := (Array.getElem?_eq_some_iff.1 pdI).1
  have d0 := cell_of_row _ _ 0 _ 52 (0, 0) pdI
  have d1 := cell_of_row _ _ 1 _ 52 (0, 0) pdI
  have d2 := cell_of_row _ _ 2 _ 52 (0, 0) pdI
  have d3 := cell_of_row _ _ 3 _ 52 (0, 0) pdI
  have d4 := cell_of_row _ _ 4 _ 52 (0, 0) pdI
  simp only [List.getElem?_toArray, List.getElem?_cons_zero, List.getElem?_cons_succ] at d0 d1 d2 d3 d4
  have b0 := k2I.cell b0
  have b1 := k2I.cell b1
  have b2 := k2I.cell b2
  have b3 := k2I.cell b3
  have b4 := k2I.cell b4
  have eC : Hid (EnsIn (fun b => wc.heap.size ≤ b ∧ b < wD.heap.size) wI fa4 fs cf4 ba4 bs cb4 ta4 ts ct4) := eC
  have hcI : Hid (wD.heap.size < wI.heap.size) := hcI
  replace pdI : Hid _ := pdI
  clear pdF kFH kI kH kG kg kFg k2g pdg k0g k2F k0F kFI k2I sz k02 k0 k2 ml1 ml2 ml3 hMs hMi hCi hMd hCs tb2 hz2
  generalize w.heap.size = G at b0 b1 b2 b3 b4 ⊢
  generalize hDD : wD.heap.size = D at eC hcI pdI d0 d1 d2 d3 d4 ⊢
  clear hDD
  have hsl : (scS fs.length N bs ts xs).1.length ≤ 17592186044416 := by
    by_cases hE : (scS fs.length N bs ts xs).2 = 0
    · rw [(scS_ok hE).2.2.2.2, fold_len]; exact hbl
    · rw [scS_bad hE]; simp
  have hRs := fun (wx : World) (k : Keep wI wx) => rScore_any nm fa4 fs.length cf4 N ba4 bs cb4 ta4 ts ct4 ax xs cx wx ((eC.out.same (w' := wx) (fun b hb => k.block b (by have := hcI.out; omega))).rd.2.1) hbl ((eC.out.same (w' := wx) (fun b hb => k.block b (by have := hcI.out; omega))).rd.2.2) (by omega) ((hxd.keep k0I).keep k) hxl (by omega)
  have hSc := fun (wx : World) (k : Keep wI wx) => hSc wx (k0I.trans k)
  have hSame := fun (wx : World) (k : Keep wI wx) => rSame_self nm fa fs cf N ba bs cb ta ts ct fa4 cf4 ba4 cb4 ta4 ct4 wx ((hf.keep k0I).keep k) hfl ((hb.keep k0I).keep k) hbl ((ht.keep k0I).keep k) htl ((eC.out.same (w' := wx) (fun b hb => k.block b (by have := hcI.out; omega))).rd.1) ((eC.out.same (w' := wx) (fun b hb => k.block b (by have := hcI.out; omega))).rd.2.1) ((eC.out.same (w' := wx) (fun b hb => k.block b (by have := hcI.out; omega))).rd.2.2)
  unfold ens at hSc hRs hSame
  obtain ⟨s, hs⟩ : ∃ s, (scS fs.length N bs ts xs).1 = s := ⟨_, rfl⟩
  obtain ⟨E, hE⟩ : ∃ E, (scS fs.length N bs ts xs).2 = E := ⟨_, rfl⟩
  rw [hs, hE] at hSc hRs
  rw [hs] at hsl
  clear hs hE eC hcI hfz hnm
  go_wp2_with fail
  refine (hSc _ (Keep.refl _)).mono ?_
  rintro e wJ ⟨v, rfl, oS, kJ⟩
  obtain ⟨sa, sc, rfl, -, -⟩ := oS.shape
  have hgs : Hid (∀ k, k < s.length → ∃ g, sa = some ⟨g, 0, none⟩) := by
    intro k hk
    rcases oS.2 with ⟨h, h0⟩ | ⟨g, cap, cur, hv, _⟩
    · omega
    · simp only [Value.slice.injEq] at hv
      exact ⟨g, hv.1⟩
  have hgP : Hid (∀ b, (Value.slice sa s.length sc).ownBlock = some b → wI.heap.size ≤ b ∧ b < wJ.heap.size) := fun b hb => World.ownsRow.lt oS b hb
  have c0 := kJ.cell b0
  have c1 := kJ.cell b1
  have c2 := kJ.cell b2
  have c3 := kJ.cell b3
  have c4 := kJ.cell b4
  go_wp2_with fail
  clear c0 c1 c2 c3 c4
  refine (hSc _ kJ).mono ?_
  rintro e wK ⟨v, rfl, oU, kK⟩
  obtain ⟨ua, uc, rfl, -, -⟩ := oU.shape
  have kIK := kJ.trans kK
  have e0 := kIK.cell d0
  have e1 := kIK.cell d1
  have e2 := kIK.cell d2
  have e3 := kIK.cell d3
  have e4 := kIK.cell d4
  go_wp2_with fail
  clear e0 e1 e2 e3 e4
  refine (hRs _ kIK).mono ?_
  rintro e wL ⟨v, rfl, oV, kL⟩
  obtain ⟨va, vc, rfl, -, -⟩ := oV.shape
  have kIL := kIK.trans kL
  have oS := (oS.keep kK).keep kL
  have oU := oU.keep kL
  have oS : Hid (OwnZ 2 wI.heap.size wL (.slice sa s.length sc) s) := oS
  go_wp2_with fail
  obtain ⟨n, hn⟩ : ∃ n, s.length = n := ⟨_, rfl⟩
  have hnl : n ≤ 17592186044416 := by omega
  have HN : Hid (s.length = n) := hn
  rw [hn] at hgs hgP
  have oS : Hid (OwnZ 2 wI.heap.size wL (.slice sa n sc) s) := by rw [← hn]; exact oS
  try rw [hn]
  clear hn
  go_loopw [98] (fun iv wr => ∃ (k : Nat) (l : List Int), k ≤ n ∧ iv = .int .i64 k ∧ Hid (l.length = n ∧ OwnZ 2 wI.heap.size wr (.slice sa n sc) l ∧ Oth (fun b => wI.heap.size ≤ b ∧ b < wJ.heap.size) wL wr)) (fun iv _ => n - (intOf iv).toNat)
  case atStart => exact ⟨0, s, by omega, rfl, HN.out, oS.out, Oth.refl _ _⟩
  case round =>
    obtain ⟨k, l, hk, rfl, hI⟩ := hrel
    by_cases hkn : k < n
    · have hkc : (k : Int) < (n : Int) := by omega
      obtain ⟨g, rfl⟩ := hgs.out k (by have := HN.out; omega)
      have hgp := hgP.out g rfl
      have hl := hI.out.1
      have oS' : OwnZ 2 wI.heap.size wr (.slice (some ⟨g, 0, none⟩) l.length sc) l := by rw [hl]; exact hI.out.2.1
      obtain ⟨_, _, e1, -, hr⟩ := oS'.shape
      simp only [Value.slice.injEq] at e1
      obtain ⟨rfl, -, -⟩ := e1
      obtain ⟨b', o', e2, hc⟩ := hr k (by omega)
      simp only [Option.some.injEq, Addr.mk.injEq, and_true] at e2
      obtain ⟨rfl, rfl⟩ := e2
      rw [Nat.zero_add] at hc
      obtain ⟨x, hx⟩ : ∃ x, l.getD k 0 = x := ⟨_, rfl⟩
      rw [hx] at hc
      obtain ⟨h1, h2⟩ := oS'.set k (by omega) (wrap64 (x + 1))
      have hJ : Hid ((l.set k (wrap64 (x + 1))).length = n ∧ OwnZ 2 wI.heap.size (wr.setCell ⟨g, k, none⟩ (.int .i64 (wrap64 (x + 1)))) (.slice (some ⟨g, 0, none⟩) n sc) (l.set k (wrap64 (x + 1))) ∧ Oth (fun b => wI.heap.size ≤ b ∧ b < wJ.heap.size) wL (wr.setCell ⟨g, k, none⟩ (.int .i64 (wrap64 (x + 1))))) := by
        refine ⟨by rw [List.length_set]; exact hl, ?_, hI.out.2.2.trans (Oth.of_one (One.set g k wr _) (.inl hgp))⟩
        rw [hl] at h1
        exact h1
      clear h1 hr oS' hI hl hx hgp
      go_wp2_with fail
      exact ⟨⟨k + 1, _, by omega, by go_num, hJ⟩, by simp [intOf]; omega⟩
    · have hkc : ¬ (k : Int) < (n : Int) := by omega
      obtain rfl : n = k := by omega
      have hown : wr.ownsRow wI.heap.size 2 1 (.slice sa n sc) n (UZ l) := by
        have h := hI.out.2.1
        unfold OwnZ at h
        rw [hI.out.1] at h
        exact h
      obtain ⟨cur, hW0, -⟩ := WS.of_own (A := fun b => (wI.heap.size ≤ b ∧ b < wJ.heap.size) ∨ wr.heap.size ≤ b) (M := n) hown (fun g hg => .inl (hgP.out g hg)) (Nat.le_refl _)
      have hW := hW0.keep ((Keep.refl wr).alloc (Obj.cells #[Value.int IntKind.i64 1, Value.int IntKind.i64 2, Value.int IntKind.i64 3] 2))
      have l0 := news_lit _ _ _ [Value.int IntKind.i64 1, Value.int IntKind.i64 2, Value.int IntKind.i64 3] (heap_alloc_new wr (Obj.cells #[Value.int IntKind.i64 1, Value.int IntKind.i64 2, Value.int IntKind.i64 3] 2))
      have hOr : Oth (fun b => wI.heap.size ≤ b ∧ b < wJ.heap.size) wL (wr.alloc (Obj.cells #[Value.int IntKind.i64 1, Value.int IntKind.i64 2, Value.int IntKind.i64 3] 2)) := hI.out.2.2.trans (Oth.of_keep ((Keep.refl wr).alloc _))
      have hU1 := fun (wx : World) (hx : Oth (fun b => wI.heap.size ≤ b ∧ b < wJ.heap.size) wL wx) => sums_any ua va uc vc s s wx (by omega) (by
        obtain ⟨_, _, e1, -, hr⟩ := (oU.same (w' := wx) (fun b hb => hx.blk b (World.ownsRow.lt oU b hb).2 (fun h => by have := (World.ownsRow.lt oU b hb).1; omega))).shape
        simp only [Value.slice.injEq] at e1
        rw [e1.1]; exact hr) (by
        obtain ⟨_, _, e1, -, hr⟩ := (oV.same (w' := wx) (fun b hb => hx.blk b (World.ownsRow.lt oV b hb).2 (fun h => by have := (World.ownsRow.lt oV b hb).1; have := kK.le; omega))).shape
        simp only [Value.slice.injEq] at e1
        rw [e1.1]; exact hr)
      rw [HN.out, decide_eq_true rfl] at hU1
      clear hown hW0 hI oS
      have hgP' := hgP
      go_wp2_with (at_builtin; refine wpList_appWS Try.underlying49 i2 rfl rfl _ _ rfl n n _ cur rfl hW (fun b hb => .inr (by rw [World.size_alloc] at hb; omega)) ⟨wr.heap.size, 0, none⟩ 3 3 rfl (by decide) [Value.int IntKind.i64 1, Value.int IntKind.i64 2, Value.int IntKind.i64 3] rfl l0 (by intro u hu; simp at hu; rcases hu with rfl | rfl | rfl <;> rfl) (by omega) (by omega) ?_; intro g1 c1 q1 wM hT1 hA1 hO1 hg1; have hOM := hOr.trans (Oth.of_one hO1 (by rcases hg1 with ⟨h, -⟩ | h; exact .inl (hgP.out g1 h); exact .inr h)))
      have kIM : Keep wI wM := hOM.keep kIL (fun b hb => hb.1)
      have hU2 := hU1 wM hOM
      clear hW l0 hOr hU1 hT1 hA1 hO1 hg1
      refine hU2.mono ?_
      rintro e wN ⟨rfl, kN⟩
      have kIN := kIM.trans kN
      have c0 := kIN.cell b0
      have c1' := kIN.cell b1
      have c2 := kIN.cell b2
      have c3 := kIN.cell b3
      have c4 := kIN.cell b4
      have e0 := kIN.cell d0
      have e1 := kIN.cell d1
      have e2 := kIN.cell d2
      have e3 := kIN.cell d3
      have e4 := kIN.cell d4
      clear hU2 hOM kIM kN oU oV hSc hRs
      go_wp2_with fail
      refine (hSame _ kIN).mono ?_
      rintro e wO ⟨rfl, kO⟩
      have kIO := kIN.trans kO
      clear c0 c1' c2 c3 c4 e0 e1 e2 e3 e4 kIN kO
      have f4 := kIO.cell b4
      go_wp2_with fail
      clear f4
      go_loopw [132] (fun iv wr => ∃ i : Nat, i ≤ ts.length ∧ iv = .int .i64 i ∧ Keep wI wr) (fun iv _ => ts.length - (intOf iv).toNat)
      case atStart => exact ⟨0, by omega, rfl, kIO⟩
      case round =>
        clear kIO
        obtain ⟨i, hi, rfl, kr⟩ := hrel
        by_cases hil : i < ts.length
        · have hic : (i : Int) < (ts.length : Int) := by omega
          obtain ⟨b, o, na, nc, rfl, t0, t1, dn, dc, dl, df⟩ := (ht.keep (k0I.trans kr)) i hil
          obtain ⟨T, hT⟩ : ∃ T, ts.getD i (0, []) = T := ⟨_, rfl⟩
          rw [hT] at t0 t1 dn dc dl df
          clear hT
          obtain ⟨out, L⟩ := T
          simp only at t0 t1 dn dc dl df
          obtain ⟨x0, hx0⟩ : ∃ x0, wr.alloc (Obj.cells #[Value.int IntKind.i64 out, Value.slice na L.length nc] 24) = x0 := ⟨_, rfl⟩
          have kx : Keep wr x0 := by rw [← hx0]; exact (Keep.refl wr).alloc _
          have px : x0.heap[wr.heap.size]? = some (Obj.cells #[Value.int IntKind.i64 out, Value.slice na L.length nc] 24 (0, 0)) := by rw [← hx0]; exact heap_alloc_new wr _
          have dn0 := dn.keep kx
          have q0 := cell_of_row _ _ 0 _ 24 (0, 0) px
          have q1 := cell_of_row _ _ 1 _ 24 (0, 0) px
          simp only [List.getElem?_toArray, List.getElem?_cons_zero, List.getElem?_cons_succ] at q0 q1
          have k0x := kr.trans kx
          obtain ⟨hVl, hIl⟩ := lvs_len dl
          have hYl := wyL_le (xs := xs) dl
          have hLv := fun (wx : World) (k : Keep x0 wx) => Leaves_any na nc out L dl wx (dn0.keep k)
          have hIn := fun (wx : World) (k : Keep x0 wx) => Inner_any na nc out L dl wx (dn0.keep k)
          have hWy := fun (wx : World) (k : Keep x0 wx) => Way_any na ax nc cx out L xs dl hxl wx (dn0.keep k) ((hxd.keep k0I).keep (k0x.trans k))
          have hrL := fun (wx : World) (k : Keep x0 wx) => rLeaves_any na nc out L dl wx (dn0.keep k)
          have hrI := fun (wx : World) (k : Keep x0 wx) => rInner_any na nc out L dl wx (dn0.keep k)
          have hrW := fun (wx : World) (k : Keep x0 wx) => rWay_any na ax nc cx out L xs dl hxl wx (dn0.keep k) ((hxd.keep k0I).keep (k0x.trans k))
          generalize lvs L = V at *
          generalize inn L = I at *
          generalize wyL L xs = Y at *
          generalize wyE L xs.length = E2 at *
          generalize shE L = E1 at *
          generalize hB : wr.heap.size = B at px q0 q1
          have hBd : B ≤ x0.heap.size := by have := kx.le; omega
          clear dn dn0 df px
          go_wp2_with fail
          try rw [hx0]
          refine (hLv _ (Keep.refl _)).mono ?_
          rintro e x1 ⟨v1, rfl, o1, n1, k1⟩
          have q0 := k1.cell q0
          have q1 := k1.cell q1
          clear hLv
          go_wp2_with fail
          refine (hIn _ k1).mono ?_
          rintro e x2 ⟨v2, rfl, o2, n2, k2⟩
          have q0 := k2.cell q0
          have q1 := k2.cell q1
          have k12 := k1.trans k2
          clear hIn
          go_wp2_with fail
          refine (hWy _ k12).mono ?_
          rintro e x3 ⟨v3, rfl, o3, n3, k3⟩
          have q0 := k3.cell q0
          have q1 := k3.cell q1
          have k13 := k12.trans k3
          clear hWy
          go_wp2_with fail
          refine (hrL _ k13).mono ?_
          rintro e x4 ⟨v4, rfl, o4, n4, k4⟩
          have q0 := k4.cell q0
          have q1 := k4.cell q1
          have k14 := k13.trans k4
          clear hrL
          go_wp2_with fail
          refine (hrI _ k14).mono ?_
          rintro e x5 ⟨v5, rfl, o5, n5, k5⟩
          have q0 := k5.cell q0
          have q1 := k5.cell q1
          have k15 := k14.trans k5
          clear hrI
          go_wp2_with fail
          refine (hrW _ k15).mono ?_
          rintro e x6 ⟨v6, rfl, o6, n6, k6⟩
          have k16 := k15.trans k6
          clear hrW q0 q1
          have k36 : Keep x3 x6 := (k4.trans k5).trans k6
          have k26 : Keep x2 x6 := k3.trans k36
          have k16' : Keep x1 x6 := k2.trans k26
          have hlB : Hid (∀ b, v1.ownBlock = some b → x0.heap.size ≤ b ∧ b < x1.heap.size) := fun b hb => ⟨n1 b hb, World.ownsRow.lt o1 b hb |>.2⟩
          have hmB : Hid (∀ b, v2.ownBlock = some b → x1.heap.size ≤ b ∧ b < x2.heap.size) := fun b hb => ⟨n2 b hb, World.ownsRow.lt o2 b hb |>.2⟩
          have h3B : ∀ b, v3.ownBlock = some b → x2.heap.size ≤ b ∧ b < x3.heap.size := fun b hb => ⟨n3 b hb, World.ownsRow.lt o3 b hb |>.2⟩
          have h6B : ∀ b, v6.ownBlock = some b → x5.heap.size ≤ b ∧ b < x6.heap.size := fun b hb => ⟨n6 b hb, World.ownsRow.lt o6 b hb |>.2⟩
          have HS : Hid (wI.heap.size ≤ x0.heap.size ∧ x0.heap.size ≤ x1.heap.size ∧ x1.heap.size ≤ x2.heap.size ∧ x2.heap.size ≤ x3.heap.size ∧ x3.heap.size ≤ x5.heap.size ∧ x5.heap.size ≤ x6.heap.size) := ⟨k0x.le, k1.le, k2.le, k3.le, (k4.trans k5).le, k6.le⟩
          have kI6 : Keep wI x6 := k0x.trans k16
          have hL1 := LW.of (A := fun b => (x0.heap.size ≤ b ∧ b < x1.heap.size) ∨ x6.heap.size ≤ b) (o1.same (fun b hb => k16'.block b (hlB.out b hb).2)) (fun b hb => .inl (hlB.out b hb)) (-1)
          have hL2 := LW.of (A := fun b => (x1.heap.size ≤ b ∧ b < x2.heap.size) ∨ x6.heap.size ≤ b) (o2.same (fun b hb => k26.block b (hmB.out b hb).2)) (fun b hb => .inl (hmB.out b hb)) (-2)
          obtain ⟨la, lc, rfl, hla⟩ := hL1.shape
          obtain ⟨ma, mc, rfl, hma⟩ := hL2.shape
          obtain ⟨a4, c4, rfl, -⟩ := o4.shape
          obtain ⟨a5, c5, rfl, -⟩ := o5.shape
          obtain ⟨a3, c3, ev3, -, -⟩ := o3.rdI
          obtain ⟨a6, c6, ev6, -, -⟩ := o6.rdI
          have hInt := fun (wx : World) (hx : Oth (fun b => x0.heap.size ≤ b ∧ b < x2.heap.size) x6 wx) => rInts_any a3 a6 c3 c6 (Y.map (fun x => ((x : Nat) : Int))) (Y.map (fun x => ((x : Nat) : Int))) wx (by rw [List.length_map]; exact hYl) (by
            obtain ⟨_, _, e', -, hr⟩ := (o3.same (w' := wx) (fun b hb => (hx.blk b (by have := h3B b hb; have := HS.out; omega) (fun h => by have := h3B b hb; omega)).trans (k36.block b (h3B b hb).2))).rdI
            rw [ev3] at e'
            simp only [Value.slice.injEq] at e'
            rw [e'.1]; exact hr) (by
            obtain ⟨_, _, e', -, hr⟩ := (o6.same (w' := wx) (fun b hb => (hx.blk b (h6B b hb).2 (fun h => by have := h6B b hb; have := HS.out; omega)))).rdI
            rw [ev6] at e'
            simp only [Value.slice.injEq] at e'
            rw [e'.1]; exact hr)
          rw [decide_eq_true rfl] at hInt
          subst ev3 ev6
          obtain ⟨ny, hny⟩ : ∃ ny, (Y.map (fun x => ((x : Nat) : Int))).length = ny := ⟨_, rfl⟩
          rw [hny] at hInt ⊢
          clear hny
          obtain ⟨nl, hnl'⟩ : ∃ nl, V.length = nl := ⟨_, rfl⟩
          obtain ⟨nm', hnm'⟩ : ∃ nm', I.length = nm' := ⟨_, rfl⟩
          rw [hnl'] at hL1 hla hlB hVl ⊢
          rw [hnm'] at hL2 hma hmB hIl ⊢
          clear hnl' hnm' o1 o2 o3 o4 o5 o6 n1 n2 n3 n4 n5 n6 h3B h6B k1 k2 k3 k4 k5 k6 k12 k13 k14 k15 k16 k36 k26 k16' kx k0x hBd kr
          have hla : Hid (0 < nl → ∃ g, la = some ⟨g, 0, none⟩) := hla
          have hma : Hid (0 < nm' → ∃ g, ma = some ⟨g, 0, none⟩) := hma
          have hL : Hid (LW (fun b => (x0.heap.size ≤ b ∧ b < x1.heap.size) ∨ x6.heap.size ≤ b) x6 (.slice la nl lc) nl 0 (-1) ∧ LW (fun b => (x1.heap.size ≤ b ∧ b < x2.heap.size) ∨ x6.heap.size ≤ b) x6 (.slice ma nm' mc) nm' 0 (-2)) := ⟨hL1, hL2⟩
          clear hL1 hL2
          go_wp2_with fail
          go_loopw [170] (fun iv y => ∃ k : Nat, k ≤ nl ∧ iv = .int .i64 k ∧ Hid (LW (fun b => (x0.heap.size ≤ b ∧ b < x1.heap.size) ∨ x6.heap.size ≤ b) y (.slice la nl lc) nl k (-1) ∧ LW (fun b => (x1.heap.size ≤ b ∧ b < x2.heap.size) ∨ x6.heap.size ≤ b) y (.slice ma nm' mc) nm' 0 (-2) ∧ Oth (fun b => x0.heap.size ≤ b ∧ b < x2.heap.size) x6 y)) (fun iv _ => nl - (intOf iv).toNat)
          case atStart => exact ⟨0, by omega, rfl, hL.out.1, hL.out.2, Oth.refl _ _⟩
          case round =>
            clear hL
            obtain ⟨k, hk, rfl, hI⟩ := hrel
            by_cases hkl : k < nl
            · have hkc : (k : Int) < (nl : Int) := by omega
              obtain ⟨g, rfl⟩ := hla.out (by omega)
              obtain ⟨⟨u, hc⟩, hf, hAg, -⟩ := hI.out.1.at (i := k) hkl
              have hg := hlB.out g rfl
              have hJ : Hid (LW (fun b => (x0.heap.size ≤ b ∧ b < x1.heap.size) ∨ x6.heap.size ≤ b) (wr.setCell ⟨g, k, none⟩ (.int .i64 (-1))) (.slice (some ⟨g, 0, none⟩) nl lc) nl (k + 1) (-1) ∧ LW (fun b => (x1.heap.size ≤ b ∧ b < x2.heap.size) ∨ x6.heap.size ≤ b) (wr.setCell ⟨g, k, none⟩ (.int .i64 (-1))) (.slice ma nm' mc) nm' 0 (-2) ∧ Oth (fun b => x0.heap.size ≤ b ∧ b < x2.heap.size) x6 (wr.setCell ⟨g, k, none⟩ (.int .i64 (-1)))) :=
                ⟨hI.out.1.set hkl, hI.out.2.1.one (One.set g k wr _) (fun e => by have := hmB.out g e; omega), hI.out.2.2.one (One.set g k wr _) (.inl ⟨hg.1, by have := HS.out; omega⟩)⟩
              clear hI hg hAg
              go_wp2_with fail
              exact ⟨⟨k + 1, by omega, by go_num, hJ⟩, by simp [intOf]; omega⟩
            · have hkc : ¬ (k : Int) < (nl : Int) := by omega
              obtain rfl : nl = k := by omega
              go_wp2_with fail
              go_loopw [179] (fun iv wr => ∃ k : Nat, k ≤ nm' ∧ iv = .int .i64 k ∧ Hid (LW (fun b => (x0.heap.size ≤ b ∧ b < x1.heap.size) ∨ x6.heap.size ≤ b) wr (.slice la nl lc) nl nl (-1) ∧ LW (fun b => (x1.heap.size ≤ b ∧ b < x2.heap.size) ∨ x6.heap.size ≤ b) wr (.slice ma nm' mc) nm' k (-2) ∧ Oth (fun b => x0.heap.size ≤ b ∧ b < x2.heap.size) x6 wr)) (fun iv _ => nm' - (intOf iv).toNat)
              case atStart => exact ⟨0, by omega, rfl, hI.out.1, hI.out.2.1, hI.out.2.2⟩
              case round =>
                clear hI
                obtain ⟨k, hk, rfl, hI⟩ := hrel
                by_cases hkl : k < nm'
                · have hkc : (k : Int) < (nm' : Int) := by omega
                  obtain ⟨g, rfl⟩ := hma.out (by omega)
                  obtain ⟨⟨u, hc⟩, hf, hAg, -⟩ := hI.out.2.1.at (i := k) hkl
                  have hg := hmB.out g rfl
                  have hJ : Hid (LW (fun b => (x0.heap.size ≤ b ∧ b < x1.heap.size) ∨ x6.heap.size ≤ b) (wr.setCell ⟨g, k, none⟩ (.int .i64 (-2))) (.slice la nl lc) nl nl (-1) ∧ LW (fun b => (x1.heap.size ≤ b ∧ b < x2.heap.size) ∨ x6.heap.size ≤ b) (wr.setCell ⟨g, k, none⟩ (.int .i64 (-2))) (.slice (some ⟨g, 0, none⟩) nm' mc) nm' (k + 1) (-2) ∧ Oth (fun b => x0.heap.size ≤ b ∧ b < x2.heap.size) x6 (wr.setCell ⟨g, k, none⟩ (.int .i64 (-2)))) :=
                    ⟨hI.out.1.one (One.set g k wr _) (fun e => by have := hlB.out g e; omega), hI.out.2.1.set hkl, hI.out.2.2.one (One.set g k wr _) (.inl ⟨by have := HS.out; omega, hg.2⟩)⟩
                  clear hI hg hAg
                  go_wp2_with fail
                  exact ⟨⟨k + 1, by omega, by go_num, hJ⟩, by simp [intOf]; omega⟩
                · have hkc : ¬ (k : Int) < (nm' : Int) := by omega
                  obtain rfl : nm' = k := by omega
                  obtain ⟨hP1, hP2, hPO⟩ := hI.out
                  have hsz6 := hPO.size
                  have hL1 := hP1.keep ((Keep.refl wr).alloc (Obj.cells #[Value.int IntKind.i64 9, Value.int IntKind.i64 9, Value.int IntKind.i64 9, Value.int IntKind.i64 9] 3))
                  have l0 := news_lit _ _ _ [Value.int IntKind.i64 9, Value.int IntKind.i64 9, Value.int IntKind.i64 9, Value.int IntKind.i64 9] (heap_alloc_new wr (Obj.cells #[Value.int IntKind.i64 9, Value.int IntKind.i64 9, Value.int IntKind.i64 9, Value.int IntKind.i64 9] 3))
                  have hO1' : Oth (fun b => x0.heap.size ≤ b ∧ b < x2.heap.size) x6 (wr.alloc (Obj.cells #[Value.int IntKind.i64 9, Value.int IntKind.i64 9, Value.int IntKind.i64 9, Value.int IntKind.i64 9] 3)) := hPO.trans (Oth.of_keep ((Keep.refl wr).alloc _))
                  have hL2 := hP2.keep ((Keep.refl wr).alloc (Obj.cells #[Value.int IntKind.i64 9, Value.int IntKind.i64 9, Value.int IntKind.i64 9, Value.int IntKind.i64 9] 3))
                  clear hI hP1 hP2 hPO
                  go_wp2_with (first
                    | (at_builtin; refine wpList_appLW rfl _ _ rfl nl nl (-1) _ rfl hL1 (Nat.le_refl _) (fun b hb => .inr (by rw [World.size_alloc] at hb; omega)) ⟨wr.heap.size, 0, none⟩ 4 4 rfl (by decide) [Value.int IntKind.i64 9, Value.int IntKind.i64 9, Value.int IntKind.i64 9, Value.int IntKind.i64 9] rfl l0 (by intro u hu; simp at hu; rw [hu]; rfl) (by omega) ?_; intro g1 e1 z1 hN1 hQ1 hg1; have hM2 := hL2.one hQ1 (fun e => by rcases hg1 with h | h; (have h1 := hlB.out g1 h; have h2 := hmB.out g1 e; omega); (have h2 := (hL2.blk e).2; omega)); have hO2' := hO1'.one hQ1 (by rcases hg1 with h | h; (have h1 := hlB.out g1 h; have h2 := HS.out; exact .inl ⟨h1.1, by omega⟩); (rw [World.size_alloc] at h; exact .inr (by omega))); have hg1' : (x0.heap.size ≤ g1 ∧ g1 < x1.heap.size) ∨ x6.heap.size ≤ g1 := (by rcases hg1 with h | h; exact .inl (hlB.out g1 h); (rw [World.size_alloc] at h; exact .inr (by omega))); have hsz7 := hO2'.size; have hK1 := hN1.keep ((Keep.refl z1).alloc (Obj.cells #[Value.int IntKind.i64 8, Value.int IntKind.i64 8, Value.int IntKind.i64 8, Value.int IntKind.i64 8] 3)); have hK2 := hM2.keep ((Keep.refl z1).alloc (Obj.cells #[Value.int IntKind.i64 8, Value.int IntKind.i64 8, Value.int IntKind.i64 8, Value.int IntKind.i64 8] 3)); have l1 := news_lit _ _ _ [Value.int IntKind.i64 8, Value.int IntKind.i64 8, Value.int IntKind.i64 8, Value.int IntKind.i64 8] (heap_alloc_new z1 (Obj.cells #[Value.int IntKind.i64 8, Value.int IntKind.i64 8, Value.int IntKind.i64 8, Value.int IntKind.i64 8] 3)); have hO3' : Oth (fun b => x0.heap.size ≤ b ∧ b < x2.heap.size) x6 (z1.alloc (Obj.cells #[Value.int IntKind.i64 8, Value.int IntKind.i64 8, Value.int IntKind.i64 8, Value.int IntKind.i64 8] 3)) := hO2'.trans (Oth.of_keep ((Keep.refl z1).alloc _)); clear hL1 hL2 l0 hO1' hN1 hQ1 hg1 hM2 hO2')
                    | (at_builtin; refine wpList_appLW rfl _ _ rfl nm' nm' (-2) _ rfl hK2 (Nat.le_refl _) (fun b hb => .inr (by rw [World.size_alloc] at hb; omega)) ⟨z1.heap.size, 0, none⟩ 4 4 rfl (by decide) [Value.int IntKind.i64 8, Value.int IntKind.i64 8, Value.int IntKind.i64 8, Value.int IntKind.i64 8] rfl l1 (by intro u hu; simp at hu; rw [hu]; rfl) (by omega) ?_; intro g2 e2 z2 hN2 hQ2 hg2; have hM1 := hK1.one hQ2 (fun e => by (have e : some g1 = some g2 := e); simp only [Option.some.injEq] at e; rcases hg2 with h | h; (have h2 := hmB.out g2 h; have h3 := HS.out; omega); (have h2 := (hK1.blk (b := g1) rfl).2; omega)); have hO4' := hO3'.one hQ2 (by rcases hg2 with h | h; (have h1 := hmB.out g2 h; have h2 := HS.out; exact .inl ⟨by omega, h1.2⟩); (rw [World.size_alloc] at h; exact .inr (by omega))); clear hK1 hK2 l1 hO3' hQ2 hg2))
                  refine (hInt _ hO4').mono ?_
                  rintro e z3 ⟨rfl, k3⟩
                  have hF1 := hM1.keep k3
                  have hF2 := hN2.keep k3
                  have kz : Keep wI z3 := (hO4'.keep kI6 (fun b hb => by have := HS.out; omega)).trans k3
                  have hF1 : Hid (∀ k, k < nl → z3.cell? ⟨g1, k, none⟩ = some (.int .i64 (-1))) := fun k hk => (hF1.at (i := k) (by omega)).2.2.2 hk
                  have hF2 : Hid (∀ k, k < nm' → z3.cell? ⟨g2, k, none⟩ = some (.int .i64 (-2))) := fun k hk => (hF2.at (i := k) (by omega)).2.2.2 hk
                  clear hM1 hN2 hO4' hInt hg1' hsz6 hsz7 k3
                  go_wp2_with fail
                  go_loopw [214] (fun iv wr => ∃ k : Nat, k ≤ nl ∧ iv = .int .i64 k ∧ z3 = wr) (fun iv _ => nl - (intOf iv).toNat)
                  case atStart => exact ⟨0, by omega, rfl, rfl⟩
                  case round =>
                    obtain ⟨k, hk, rfl, hzw⟩ := hrel
                    subst hzw
                    by_cases hkl : k < nl
                    · have hkc : (k : Int) < (nl : Int) := by omega
                      have hc := hF1.out k hkl
                      go_wp2_with fail
                      exact ⟨⟨k + 1, by omega, by go_num, by first | trivial | rfl⟩, by simp [intOf]; omega⟩
                    · have hkc : ¬ (k : Int) < (nl : Int) := by omega
                      obtain rfl : nl = k := by omega
                      go_wp2_with fail
                      go_loopw [225] (fun iv wr => ∃ k : Nat, k ≤ nm' ∧ iv = .int .i64 k ∧ z3 = wr) (fun iv _ => nm' - (intOf iv).toNat)
                      case atStart => exact ⟨0, by omega, rfl, rfl⟩
                      case round =>
                        obtain ⟨k, hk, rfl, hzw⟩ := hrel
                        subst hzw
                        by_cases hkl : k < nm'
                        · have hkc : (k : Int) < (nm' : Int) := by omega
                          have hc := hF2.out k hkl
                          go_wp2_with fail
                          exact ⟨⟨k + 1, by omega, by go_num, by first | trivial | rfl⟩, by simp [intOf]; omega⟩
                        · have hkc : ¬ (k : Int) < (nm' : Int) := by omega
                          obtain rfl : nm' = k := by omega
                          go_wp2_with fail
                          exact ⟨⟨i + 1, by omega, by go_num, kz⟩, by simp [intOf]; omega⟩
        · have hic : ¬ (i : Int) < (ts.length : Int) := by omega
          obtain rfl : ts.length = i := by omega
          have f0 := kr.cell b0
          have f1 := kr.cell b1
          have f2 := kr.cell b2
          have f3 := kr.cell b3
          have f4 := kr.cell b4
          have e0 := kr.cell d0
          have e1 := kr.cell d1
          have e2 := kr.cell d2
          have e3 := kr.cell d3
          have e4 := kr.cell d4
          go_wp2_with fail
          refine (hSame _ kr).mono ?_
          rintro e wZ ⟨rfl, kZ⟩
          go_wp2_with fail
          go_ret
          exact ⟨rfl, k0I.trans (kr.trans kZ)⟩
end Go.Proofs.Ytbchinfmdioijaa
