import Derived.Test.YtbchinfmdioijaaS23
set_option linter.unusedVariables false
set_option linter.unusedSimpArgs false
namespace Go.Proofs.Ytbchinfmdioijaa
open Go.RowKit Go.Shelf
set_option maxRecDepth 100000 in
set_option maxHeartbeats 4000000 in
theorem Same_any (nm1 : ByteArray) (fa1 : Option Addr) (fs1 : List ByteArray) (cf1 : Nat) (N1 : Int) (ba1 : Option Addr) (bs1 : List Int) (cb1 : Nat) (ta1 : Option Addr) (ts1 : List (Int × List Nd)) (ct1 : Nat) (nm2 : ByteArray) (fa2 : Option Addr) (fs2 : List ByteArray) (cf2 : Nat) (N2 : Int) (ba2 : Option Addr) (bs2 : List Int) (cb2 : Nat) (ta2 : Option Addr) (ts2 : List (Int × List Nd)) (ct2 : Nat) (w : World)
    (hf1 : RdS w fa1 fs1) (hfl : fs1.length ≤ 8796093022208) (hb1 : RdI w ba1 bs1) (hbl : bs1.length ≤ 17592186044416) (ht1 : RdT w ta1 ts1) (htl : ts1.length ≤ 4398046511104)
    (hf2 : RdS w fa2 fs2) (hb2 : RdI w ba2 bs2) (ht2 : RdT w ta2 ts2) :
    Calls Try.prog 35 #[ens nm1 fa1 fs1.length cf1 N1 ba1 bs1.length cb1 ta1 ts1.length ct1, ens nm2 fa2 fs2.length cf2 N2 ba2 bs2.length cb2 ta2 ts2.length ct2] w fun e w' => e = .returned (.bool (@decide (EnsEq nm1 fs1 N1 bs1 ts1 nm2 fs2 N2 bs2 ts2) (Classical.propDecidable _))) ∧ Keep w w' := by
  unfold ens
  obtain ⟨w2, hw2, k2, s2, x0, x1⟩ := boxes2n w #[Value.string nm1, Value.slice fa1 fs1.length cf1, Value.int IntKind.i64 N1, Value.slice ba1 bs1.length cb1, Value.slice ta1 ts1.length ct1] #[Value.string nm2, Value.slice fa2 fs2.length cf2, Value.int IntKind.i64 N2, Value.slice ba2 bs2.length cb2, Value.slice ta2 ts2.length ct2] 52 52
  have y0 := cell_of_row _ _ 0 _ 52 (0, 0) x0
  have y1 := cell_of_row _ _ 1 _ 52 (0, 0) x0
  have y2 := cell_of_row _ _ 2 _ 52 (0, 0) x0
  have y3 := cell_of_row _ _ 3 _ 52 (0, 0) x0
  have y4 := cell_of_row _ _ 4 _ 52 (0, 0) x0
  have z0 := cell_of_row _ _ 0 _ 52 (0, 0) x1
  have z1 := cell_of_row _ _ 1 _ 52 (0, 0) x1
  have z2 := cell_of_row _ _ 2 _ 52 (0, 0) x1
  have z3 := cell_of_row _ _ 3 _ 52 (0, 0) x1
  have z4 := cell_of_row _ _ 4 _ 52 (0, 0) x1
  simp only [List.getElem?_toArray, List.getElem?_cons_zero, List.getElem?_cons_succ] at y0 y1 y2 y3 y4 z0 z1 z2 z3 z4
  have hS64 := fun (wx : World) (kx : Keep w2 wx) => equalS_any fa1 fa2 cf1 cf2 fs1 fs2 wx (by omega) ((hf1.keep k2).keep kx) ((hf2.keep k2).keep kx)
  have hS65 := fun (wx : World) (kx : Keep w2 wx) => equalZ_any ba1 ba2 cb1 cb2 bs1 bs2 wx hbl ((hb1.keep k2).keep kx) ((hb2.keep k2).keep kx)
  have hS66 := fun (wx : World) (kx : Keep w2 wx) => equalT_any ta1 ta2 ct1 ct2 ts1 ts2 wx htl ((ht1.keep k2).keep kx) ((ht2.keep k2).keep kx)
  clear x0 x1 s2 hf1 hf2 hb1 hb2 ht1 ht2
  replace hw2 : Hid _ := hw2
  have no : ¬ EnsEq nm1 fs1 N1 bs1 ts1 nm2 fs2 N2 bs2 ts2 → @decide (EnsEq nm1 fs1 N1 bs1 ts1 nm2 fs2 N2 bs2 ts2) (Classical.propDecidable _) = false := fun h => @decide_eq_false _ (Classical.propDecidable _) h
  replace no : Hid _ := no
  by_cases hn : nm1 = nm2
  · subst hn
    go_enter Try.func35, Try.ntmps35
    go_wp2_with fail
    rw [hw2.out]
    refine (hS64 _ (Keep.refl _)).mono ?_
    rintro e w3 ⟨rfl, k3⟩
    by_cases hf : fs1 = fs2
    · rw [@decide_eq_true _ (Classical.propDecidable _) hf]
      replace hf : Hid _ := hf
      have a2 := k3.cell y2
      have a3 := k3.cell y3
      have b2 := k3.cell z2
      have b3 := k3.cell z3
      by_cases hN : N1 = N2
      · subst hN
        go_wp2_with fail
        refine (hS65 _ k3).mono ?_
        rintro e w4 ⟨rfl, k4⟩
        have k24 := k3.trans k4
        by_cases hb : bs1 = bs2
        · rw [decide_eq_true hb]
          replace hb : Hid _ := hb
          have a4 := k24.cell y4
          have b4 := k24.cell z4
          go_wp2_with fail
          refine (hS66 _ k24).mono ?_
          rintro e w5 ⟨rfl, k5⟩
          go_wp2_with fail
          go_ret
          refine ⟨ret_bool ?_, k2.trans (k24.trans k5)⟩
          by_cases h : ts1 = ts2
          · rw [@decide_eq_true _ (Classical.propDecidable _) h, @decide_eq_true (EnsEq _ _ _ _ _ _ _ _ _ _) (Classical.propDecidable _) ⟨rfl, hf.out, rfl, hb.out, h⟩]
          · rw [@decide_eq_false _ (Classical.propDecidable _) h, no.out (fun e => h e.2.2.2.2)]
        · rw [decide_eq_false hb]
          have HF := no.out (fun e => hb e.2.2.2.1)
          replace HF : Hid _ := HF
          clear hb
          go_wp2_with fail
          go_ret
          exact ⟨ret_bool HF.out.symm, k2.trans k24⟩
      · have q1 : (N1 == N2) = false := by rw [beq_eq_false_iff_ne]; exact hN
        have q2 : (N1 != N2) = true := by rw [bne_iff_ne]; exact hN
        have HF := no.out (fun e => hN e.2.2.1)
        replace HF : Hid _ := HF
        clear hN
        go_wp2_with fail
        go_ret
        exact ⟨ret_bool HF.out.symm, k2.trans k3⟩
    · rw [@decide_eq_false _ (Classical.propDecidable _) hf]
      have HF := no.out (fun e => hf e.2.1)
      replace HF : Hid _ := HF
      clear hf
      go_wp2_with fail
      go_ret
      exact ⟨ret_bool HF.out.symm, k2.trans k3⟩
  · have q1 : (nm1.toList == nm2.toList) = false := ba_ne hn
    have HF := no.out (fun e => hn e.1)
    replace HF : Hid _ := HF
    clear hn
    go_enter Try.func35, Try.ntmps35
    go_wp2_with fail
    rw [hw2.out]
    go_ret
    exact ⟨ret_bool HF.out.symm, k2⟩
end Go.Proofs.Ytbchinfmdioijaa
