import Derived.Test.YtgciimjcdhallaaDoorS5
set_option linter.unusedVariables false
set_option linter.unusedSimpArgs false
namespace Go.Proofs.YtgciimjcdhallaaDoor
open Go.RowKit Go.Shelf
set_option maxRecDepth 100000 in
set_option maxHeartbeats 2000000 in
theorem rDec_G4_A_true (s : List UInt8) (w : World) (hs : s.length ≤ 4096) (hng : pNg s = true) (hK : s.length = 2) (c : Nat) (hc : (s.getD 1 0).toNat = c) (hi : c ≠ 105) (hn : c ≠ 110) (x0 x1 x2 : Bool) (x3 x4 : Int) (x5 ng hx : Bool) (wh pt pw : List UInt8) 
    (hSp : ∀ wx, Calls Tryd.prog 15 #[.string ⟨s.toArray⟩] wx fun e w' => e = .returned (.tuple #[.agg (txt x0 x1 x2 x3 x4 x5 ng hx wh pt pw), .int .i64 (-1)]) ∧ Keep wx w')
    (hwd : allD wh) (hpd : allD pt) (hl : wh.length + pt.length ≤ 4096) (PW : Int) (hPw : ∀ wx, Calls Tryd.prog 17 #[.string ⟨pw.toArray⟩] wx fun e w' => e = .returned (.int .i64 PW) ∧ wx = w') (hPb : -100000 ≤ PW ∧ PW ≤ 100000) (N : Nat) (hN : nat (wh ++ pt) = N) (p : Int) (hp : PW - pt.length + 6 = p) (hG : 0 < N) (kk : Nat) (hkk : p = -(kk : Int)) (hk0 : 0 < kk) (hk30 : kk ≤ wh.length + pt.length + 3) :
    Calls Tryd.prog 7 #[.string ⟨s.toArray⟩] w fun e w' => e = .returned (.tuple #[.int .i64 (sgV ng (rup N (10 ^ kk))), .int .i64 (sgE ng (rup N (10 ^ kk))), .int .i64 0]) ∧ Keep w w' := by
  have hll : (wh ++ pt).length ≤ 4096 := by rw [List.length_append]; omega
  have hNb : N < 10 ^ (wh ++ pt).length := by
    have h1 := nat_lt (hwd.app hpd)
    rw [hN] at h1
    exact h1
  have hTb : 1 * 10 ^ kk < 4294967296 ^ 460 := by
    have h2 := pow_limbs (kk + 1) 460 (by omega)
    rw [Nat.pow_succ] at h2
    have h3 : 0 < 10 ^ kk := Nat.pow_pos (by omega)
    omega
  have hNb2 : N < 4294967296 ^ 460 := by
    have h2 := pow_limbs (wh ++ pt).length 460 (by omega)
    omega
  have hk42 : kk < 4200 := by omega
  have hDg := fun wx => Digits_any (wh ++ pt) wx (by rw [List.length_append]; omega) (hwd.app hpd)
  rw [hN] at hDg
  obtain ⟨C, hC⟩ : ∃ C, wh ++ pt = C := ⟨_, rfl⟩
  have hcat : (ByteArray.mk wh.toArray) ++ (ByteArray.mk pt.toArray) = ByteArray.mk C.toArray := by rw [catB, hC]
  rw [hC] at hDg
  have swh : (ByteArray.mk wh.toArray).size = wh.length := sz_mk wh
  have spt : (ByteArray.mk pt.toArray).size = pt.length := sz_mk pt
  obtain ⟨W, hW⟩ : ∃ W, wh.length = W := ⟨_, rfl⟩
  obtain ⟨Q, hQ⟩ : ∃ Q, pt.length = Q := ⟨_, rfl⟩
  rw [hW] at swh hl hk30
  rw [hQ] at spt hl hp hk30
  obtain ⟨hP1, hP2⟩ := hPb
  have x1 : IntKind.i64.wrap (PW - (Q : Int)) = PW - (Q : Int) := by rw [IntWalk.i64_left]; exact IntWalk.wrap64_in _ (by omega)
  have x2 : IntKind.i64.wrap (PW - (Q : Int) + 6) = p := by rw [IntWalk.i64_left, hp]; exact IntWalk.wrap64_in _ (by omega)
  have x3 : IntKind.i64.wrap (-((W : Int) + (Q : Int))) = -((W : Int) + (Q : Int)) := by rw [IntWalk.i64_left]; exact IntWalk.wrap64_in _ (by omega)
  have x4 : IntKind.i64.wrap (-((W : Int) + (Q : Int)) - 3) = -((W : Int) + (Q : Int)) - 3 := by rw [IntWalk.i64_left]; exact IntWalk.wrap64_in _ (by omega)
  replace hp : Hid _ := hp
  clear hNb hll
  replace hTb : Hid _ := hTb
  clear hwd hpd hN hC hW hQ
  have s1 : (ByteArray.mk s.toArray).size = s.length := sz_mk s
  have hix0 : ∀ wx, (Instr.index 9 (.string ⟨s.toArray⟩) (.int .i64 0)).run Tryd.prog wx = .ok (.int .u8 ((s.getD 0 0).toNat : Nat)) wx := fun wx => run_ix s 0 (by omega) wx
  obtain ⟨c0, hc0⟩ : ∃ c0, (s.getD 0 0).toNat = c0 := ⟨_, rfl⟩
  have hcb : ((c0 : Int) == 45) = true := by
    have h1 := ng_of (s := s) (by omega)
    rw [hng, hc0] at h1
    exact eqI (of_decide_eq_true h1.symm)
  rw [hc0] at hix0
  have hix1 : ∀ wx, (Instr.index 9 (.string ⟨s.toArray⟩) (.int .i64 1)).run Tryd.prog wx = .ok (.int .u8 ((s.getD 1 0).toNat : Nat)) wx := fun wx => run_ix s 1 (by omega) wx
  rw [hc] at hix1
  have hi2 : ((c : Int) == 105) = false := neI (by omega)
  have hn2 : ((c : Int) == 110) = false := neI (by omega)
  rw [hK] at s1 hs
  unfold txt at hSp
  clear hng hK hc0 hc
  subst hkk
  have hq1 : ¬ (30 : Int) < -(kk : Int) := by omega
  have hq2 : ¬ -(kk : Int) < -((W : Int) + (Q : Int)) - 3 := by omega
  have hq3 : -(kk : Int) < 0 := by omega
  obtain ⟨Y, hY⟩ : ∃ Y, (10 : Nat) ^ kk = Y := ⟨_, rfl⟩
  have HY0 : Hid (0 < Y) := by rw [← hY]; exact Nat.pow_pos (by omega)
  have HYb : Hid (Y < 4294967296 ^ 460) := by rw [← hY]; have := hTb.out; rw [Nat.one_mul] at this; exact this
  rw [hY]
  have HY : Hid ((10 : Nat) ^ kk = Y) := hY
  obtain ⟨M, hM⟩ : ∃ M, rup N Y = M := ⟨_, rfl⟩
  rw [hM]
  have HM : Hid (rup N Y = M) := hM
  have HB : Hid (∀ b, Li.rndB N Y = b → (b = false → 9223372036854775808 < M) ∧ (b = true → M ≤ 9223372036854775809)) := by
    intro b hb
    constructor
    · rintro rfl
      have := rnd_no (k := kk) hG hk42 (by rw [hY]; exact hb)
      rw [hY, hM] at this
      exact this
    · rintro rfl
      unfold Li.rndB at hb
      have h1 := (of_decide_eq_true hb).2
      rw [← hM]
      unfold rup
      split <;> omega
  replace hNb2 : Hid _ := hNb2
  clear hM hY hk42
  go_enter Tryd.func7, Tryd.ntmps7
  go_wp2_with (first
    | (go_at_call 15; refine (hSp _).mono ?_; rintro e w2 ⟨rfl, k2⟩; have K2 : Hid (Keep w w2) := k2; clear k2)
    | (go_at_call 16; refine (hDg _).mono ?_; rintro e w3 ⟨v', rfl, nv, k3⟩; obtain ⟨a, cp, n, rfl, hn0⟩ := Nv_len nv; have NV : Hid (Li.Nv w3 (.slice a n cp) N) := nv; have z6 := k3.cell (alloc_cell w2 _ 43 6 _ rfl); have z8 := k3.cell (alloc_cell w2 _ 43 8 _ rfl); have z9 := k3.cell (alloc_cell w2 _ 43 9 _ rfl); have z10 := k3.cell (alloc_cell w2 _ 43 10 _ rfl); have K3 : Hid (Keep w w3) := (K2.out.alloc _).trans k3; have hnb : ¬ n = 0 := (fun q => absurd (hn0.1 q) (by omega)); have hnI : ((n : Int) == 0) = false := neI (by omega); clear k3 nv hn0)
    | fail)
  refine wp_region_quiet_lit (by kernel_rfl) (by kernel_rfl) ?_
  iterate 9
    with_reducible refine wpQuiet_step ?_
    intro K hK
    go_simp
    first
      | (with_reducible refine hK _ ?_; clear hK K)
      | (with_reducible refine (if_neg ?_).mpr (hK _ ?_)
         · decide
         clear hK K)
      | (with_reducible refine ⟨.int .i64 PW, fun aw => (hPw _).mono ?_, hK _ ?_⟩
         · rintro e w' ⟨rfl, rfl⟩; exact ⟨rfl, _, rfl⟩
         clear hK K)
      | (apply Exists.intro
         refine ⟨fun _ => ?_, hK _ ?_⟩
         · with_reducible rfl
         clear hK K)
  refine wpQuiet_nil ?_
  rintro _ ⟨nq, rfl⟩
  replace z6 : (w3.drewN nq).cell? _ = _ := z6
  replace z8 : (w3.drewN nq).cell? _ = _ := z8
  replace z9 : (w3.drewN nq).cell? _ = _ := z9
  replace z10 : (w3.drewN nq).cell? _ = _ := z10
  replace K3 : Hid (Keep w (w3.drewN nq)) := K3.out.drewN nq
  replace NV : Hid (Li.Nv (w3.drewN nq) (.slice a n cp) N) := NV.out
  generalize w3.drewN nq = w4 at z6 z8 z9 z10 K3 NV ⊢
  have O4 : Hid (Li.Nv (w4.alloc (.cells #[.int .u32 1] 49)) (.slice (some ⟨w4.heap.size, 0, none⟩) 1 1) 1) := Nv_one w4
  have P4 : Hid (Li.Nv (w4.alloc (.cells #[.int .u32 1] 49)) (.slice a n cp) N) := NV.out.keep ((Keep.refl w4).alloc _)
  have hT := Li.Ten_nv (.slice (some ⟨w4.heap.size, 0, none⟩) 1 1) 1 kk 460 (w4.alloc (.cells #[.int .u32 1] 49)) O4.out hTb.out (by omega) (by omega)
  rw [Nat.one_mul, HY.out] at hT
  obtain ⟨b, hb⟩ : ∃ b, Li.rndB N Y = b := ⟨_, rfl⟩
  have hBb := HB.out b hb
  have hRn := fun v5 w5 (h : Li.Nv w5 (.slice a n cp) N) (g : Li.Nv w5 v5 Y) => Li.Rounded_nv (.slice a n cp) v5 N Y 460 w5 h g HY0.out hNb2.out HYb.out (by omega)
  rw [hb, show Li.rup N Y = M from HM.out] at hRn
  replace hBb : Hid _ := hBb
  clear hb HB
  cases b
  · have hbig := hBb.out.1 rfl
    have hnn := sg_not ng M (of_decide_eq_false (sgE_big ng hbig))
    have hSg := fun wx => rsigned_any ng 0 (by omega) wx
    rw [(sg_zero ng).1, (sg_zero ng).2] at hSg
    simp only [Bool.false_eq_true, if_false] at hRn
    replace hbig : Hid _ := hbig
    replace hnn : Hid _ := hnn
    go_wp2_with (first
      | (go_at_call 18; refine hT.mono ?_; rintro e w5 ⟨v5, rfl, n5, k5⟩; have N5 : Hid (Li.Nv w5 v5 Y) := n5; have K5 : Hid (Keep w4 w5) := ((Keep.refl w4).alloc _).trans k5; have O5 : Hid (Li.Nv w5 (.slice a n cp) N) := P4.out.keep k5; clear n5 k5)
      | (go_at_call 19; refine (hRn _ _ O5.out N5.out).mono ?_; rintro e w6 ⟨rfl, k6⟩; have K6 : Hid (Keep w4 w6) := K5.out.trans k6; have y6 := K6.out.cell z6; clear k6)
      | (go_at_call 20; refine (hSg _).mono ?_; rintro e w7 ⟨⟨X, rfl, hX⟩, e7⟩; subst e7; replace hX : Hid _ := hX))
    all_goals
      go_ret3
      exact ⟨by rw [hnn.out.1, hnn.out.2]; rfl, K3.out.trans K6.out⟩
  · have hle := hBb.out.2 rfl
    have hSg := fun wx => rsigned_any ng M (by omega) wx
    simp only [if_true] at hRn
    obtain ⟨bb, hbb⟩ : ∃ bb, decide (sgE ng M = 0) = bb := ⟨_, rfl⟩
    rw [hbb] at hSg
    replace hbb : Hid _ := hbb
    cases bb
    all_goals
      go_wp2_with (first
        | (go_at_call 18; refine hT.mono ?_; rintro e w5 ⟨v5, rfl, n5, k5⟩; have N5 : Hid (Li.Nv w5 v5 Y) := n5; have K5 : Hid (Keep w4 w5) := ((Keep.refl w4).alloc _).trans k5; have O5 : Hid (Li.Nv w5 (.slice a n cp) N) := P4.out.keep k5; clear n5 k5)
        | (go_at_call 19; refine (hRn _ _ O5.out N5.out).mono ?_; rintro e w6 ⟨rfl, k6⟩; have K6 : Hid (Keep w4 w6) := K5.out.trans k6; have y6 := K6.out.cell z6; clear k6)
        | (go_at_call 20; refine (hSg _).mono ?_; rintro e w7 ⟨⟨X, rfl, hX⟩, e7⟩; subst e7; replace hX : Hid _ := hX))
    · go_ret3
      have hnn := sg_not ng M (of_decide_eq_false hbb.out)
      exact ⟨by rw [hnn.1, hnn.2]; rfl, K3.out.trans K6.out⟩
    · go_ret3
      have hz := of_decide_eq_true hbb.out
      exact ⟨by rw [hz, ← hX.out hz]; rfl, K3.out.trans K6.out⟩
set_option maxRecDepth 100000 in
set_option maxHeartbeats 2000000 in
theorem rDec_G4_A_false (s : List UInt8) (w : World) (hs : s.length ≤ 4096) (hng : pNg s = false) (hK : s.length = 1) (c : Nat) (hc : (s.getD 0 0).toNat = c) (hi : c ≠ 105) (hn : c ≠ 110) (x0 x1 x2 : Bool) (x3 x4 : Int) (x5 ng hx : Bool) (wh pt pw : List UInt8) 
    (hSp : ∀ wx, Calls Tryd.prog 15 #[.string ⟨s.toArray⟩] wx fun e w' => e = .returned (.tuple #[.agg (txt x0 x1 x2 x3 x4 x5 ng hx wh pt pw), .int .i64 (-1)]) ∧ Keep wx w')
    (hwd : allD wh) (hpd : allD pt) (hl : wh.length + pt.length ≤ 4096) (PW : Int) (hPw : ∀ wx, Calls Tryd.prog 17 #[.string ⟨pw.toArray⟩] wx fun e w' => e = .returned (.int .i64 PW) ∧ wx = w') (hPb : -100000 ≤ PW ∧ PW ≤ 100000) (N : Nat) (hN : nat (wh ++ pt) = N) (p : Int) (hp : PW - pt.length + 6 = p) (hG : 0 < N) (kk : Nat) (hkk : p = -(kk : Int)) (hk0 : 0 < kk) (hk30 : kk ≤ wh.length + pt.length + 3) :
    Calls Tryd.prog 7 #[.string ⟨s.toArray⟩] w fun e w' => e = .returned (.tuple #[.int .i64 (sgV ng (rup N (10 ^ kk))), .int .i64 (sgE ng (rup N (10 ^ kk))), .int .i64 0]) ∧ Keep w w' := by
  have hll : (wh ++ pt).length ≤ 4096 := by rw [List.length_append]; omega
  have hNb : N < 10 ^ (wh ++ pt).length := by
    have h1 := nat_lt (hwd.app hpd)
    rw [hN] at h1
    exact h1
  have hTb : 1 * 10 ^ kk < 4294967296 ^ 460 := by
    have h2 := pow_limbs (kk + 1) 460 (by omega)
    rw [Nat.pow_succ] at h2
    have h3 : 0 < 10 ^ kk := Nat.pow_pos (by omega)
    omega
  have hNb2 : N < 4294967296 ^ 460 := by
    have h2 := pow_limbs (wh ++ pt).length 460 (by omega)
    omega
  have hk42 : kk < 4200 := by omega
  have hDg := fun wx => Digits_any (wh ++ pt) wx (by rw [List.length_append]; omega) (hwd.app hpd)
  rw [hN] at hDg
  obtain ⟨C, hC⟩ : ∃ C, wh ++ pt = C := ⟨_, rfl⟩
  have hcat : (ByteArray.mk wh.toArray) ++ (ByteArray.mk pt.toArray) = ByteArray.mk C.toArray := by rw [catB, hC]
  rw [hC] at hDg
  have swh : (ByteArray.mk wh.toArray).size = wh.length := sz_mk wh
  have spt : (ByteArray.mk pt.toArray).size = pt.length := sz_mk pt
  obtain ⟨W, hW⟩ : ∃ W, wh.length = W := ⟨_, rfl⟩
  obtain ⟨Q, hQ⟩ : ∃ Q, pt.length = Q := ⟨_, rfl⟩
  rw [hW] at swh hl hk30
  rw [hQ] at spt hl hp hk30
  obtain ⟨hP1, hP2⟩ := hPb
  have x1 : IntKind.i64.wrap (PW - (Q : Int)) = PW - (Q : Int) := by rw [IntWalk.i64_left]; exact IntWalk.wrap64_in _ (by omega)
  have x2 : IntKind.i64.wrap (PW - (Q : Int) + 6) = p := by rw [IntWalk.i64_left, hp]; exact IntWalk.wrap64_in _ (by omega)
  have x3 : IntKind.i64.wrap (-((W : Int) + (Q : Int))) = -((W : Int) + (Q : Int)) := by rw [IntWalk.i64_left]; exact IntWalk.wrap64_in _ (by omega)
  have x4 : IntKind.i64.wrap (-((W : Int) + (Q : Int)) - 3) = -((W : Int) + (Q : Int)) - 3 := by rw [IntWalk.i64_left]; exact IntWalk.wrap64_in _ (by omega)
  replace hp : Hid _ := hp
  clear hNb hll
  replace hTb : Hid _ := hTb
  clear hwd hpd hN hC hW hQ
  have s1 : (ByteArray.mk s.toArray).size = s.length := sz_mk s
  have hix0 : ∀ wx, (Instr.index 9 (.string ⟨s.toArray⟩) (.int .i64 0)).run Tryd.prog wx = .ok (.int .u8 ((s.getD 0 0).toNat : Nat)) wx := fun wx => run_ix s 0 (by omega) wx
  obtain ⟨c0, hc0⟩ : ∃ c0, (s.getD 0 0).toNat = c0 := ⟨_, rfl⟩
  have hcb : ((c0 : Int) == 45) = false := by
    have h1 := ng_of (s := s) (by omega)
    rw [hng, hc0] at h1
    exact neI (by have := of_decide_eq_false h1.symm; omega)
  rw [hc0] at hix0
  obtain rfl : c = c0 := by rw [← hc, hc0]
  have hi2 : ((c : Int) == 105) = false := neI (by omega)
  have hn2 : ((c : Int) == 110) = false := neI (by omega)
  rw [hK] at s1 hs
  unfold txt at hSp
  clear hng hK hc0 hc
  subst hkk
  have hq1 : ¬ (30 : Int) < -(kk : Int) := by omega
  have hq2 : ¬ -(kk : Int) < -((W : Int) + (Q : Int)) - 3 := by omega
  have hq3 : -(kk : Int) < 0 := by omega
  obtain ⟨Y, hY⟩ : ∃ Y, (10 : Nat) ^ kk = Y := ⟨_, rfl⟩
  have HY0 : Hid (0 < Y) := by rw [← hY]; exact Nat.pow_pos (by omega)
  have HYb : Hid (Y < 4294967296 ^ 460) := by rw [← hY]; have := hTb.out; rw [Nat.one_mul] at this; exact this
  rw [hY]
  have HY : Hid ((10 : Nat) ^ kk = Y) := hY
  obtain ⟨M, hM⟩ : ∃ M, rup N Y = M := ⟨_, rfl⟩
  rw [hM]
  have HM : Hid (rup N Y = M) := hM
  have HB : Hid (∀ b, Li.rndB N Y = b → (b = false → 9223372036854775808 < M) ∧ (b = true → M ≤ 9223372036854775809)) := by
    intro b hb
    constructor
    · rintro rfl
      have := rnd_no (k := kk) hG hk42 (by rw [hY]; exact hb)
      rw [hY, hM] at this
      exact this
    · rintro rfl
      unfold Li.rndB at hb
      have h1 := (of_decide_eq_true hb).2
      rw [← hM]
      unfold rup
      split <;> omega
  replace hNb2 : Hid _ := hNb2
  clear hM hY hk42
  go_enter Tryd.func7, Tryd.ntmps7
  go_wp2_with (first
    | (go_at_call 15; refine (hSp _).mono ?_; rintro e w2 ⟨rfl, k2⟩; have K2 : Hid (Keep w w2) := k2; clear k2)
    | (go_at_call 16; refine (hDg _).mono ?_; rintro e w3 ⟨v', rfl, nv, k3⟩; obtain ⟨a, cp, n, rfl, hn0⟩ := Nv_len nv; have NV : Hid (Li.Nv w3 (.slice a n cp) N) := nv; have z6 := k3.cell (alloc_cell w2 _ 43 6 _ rfl); have z8 := k3.cell (alloc_cell w2 _ 43 8 _ rfl); have z9 := k3.cell (alloc_cell w2 _ 43 9 _ rfl); have z10 := k3.cell (alloc_cell w2 _ 43 10 _ rfl); have K3 : Hid (Keep w w3) := (K2.out.alloc _).trans k3; have hnb : ¬ n = 0 := (fun q => absurd (hn0.1 q) (by omega)); have hnI : ((n : Int) == 0) = false := neI (by omega); clear k3 nv hn0)
    | fail)
  refine wp_region_quiet_lit (by kernel_rfl) (by kernel_rfl) ?_
  iterate 9
    with_reducible refine wpQuiet_step ?_
    intro K hK
    go_simp
    first
      | (with_reducible refine hK _ ?_; clear hK K)
      | (with_reducible refine (if_neg ?_).mpr (hK _ ?_)
         · decide
         clear hK K)
      | (with_reducible refine ⟨.int .i64 PW, fun aw => (hPw _).mono ?_, hK _ ?_⟩
         · rintro e w' ⟨rfl, rfl⟩; exact ⟨rfl, _, rfl⟩
         clear hK K)
      | (apply Exists.intro
         refine ⟨fun _ => ?_, hK _ ?_⟩
         · with_reducible rfl
         clear hK K)
  refine wpQuiet_nil ?_
  rintro _ ⟨nq, rfl⟩
  replace z6 : (w3.drewN nq).cell? _ = _ := z6
  replace z8 : (w3.drewN nq).cell? _ = _ := z8
  replace z9 : (w3.drewN nq).cell? _ = _ := z9
  replace z10 : (w3.drewN nq).cell? _ = _ := z10
  replace K3 : Hid (Keep w (w3.drewN nq)) := K3.out.drewN nq
  replace NV : Hid (Li.Nv (w3.drewN nq) (.slice a n cp) N) := NV.out
  generalize w3.drewN nq = w4 at z6 z8 z9 z10 K3 NV ⊢
  have O4 : Hid (Li.Nv (w4.alloc (.cells #[.int .u32 1] 49)) (.slice (some ⟨w4.heap.size, 0, none⟩) 1 1) 1) := Nv_one w4
  have P4 : Hid (Li.Nv (w4.alloc (.cells #[.int .u32 1] 49)) (.slice a n cp) N) := NV.out.keep ((Keep.refl w4).alloc _)
  have hT := Li.Ten_nv (.slice (some ⟨w4.heap.size, 0, none⟩) 1 1) 1 kk 460 (w4.alloc (.cells #[.int .u32 1] 49)) O4.out hTb.out (by omega) (by omega)
  rw [Nat.one_mul, HY.out] at hT
  obtain ⟨b, hb⟩ : ∃ b, Li.rndB N Y = b := ⟨_, rfl⟩
  have hBb := HB.out b hb
  have hRn := fun v5 w5 (h : Li.Nv w5 (.slice a n cp) N) (g : Li.Nv w5 v5 Y) => Li.Rounded_nv (.slice a n cp) v5 N Y 460 w5 h g HY0.out hNb2.out HYb.out (by omega)
  rw [hb, show Li.rup N Y = M from HM.out] at hRn
  replace hBb : Hid _ := hBb
  clear hb HB
  cases b
  · have hbig := hBb.out.1 rfl
    have hnn := sg_not ng M (of_decide_eq_false (sgE_big ng hbig))
    have hSg := fun wx => rsigned_any ng 0 (by omega) wx
    rw [(sg_zero ng).1, (sg_zero ng).2] at hSg
    simp only [Bool.false_eq_true, if_false] at hRn
    replace hbig : Hid _ := hbig
    replace hnn : Hid _ := hnn
    go_wp2_with (first
      | (go_at_call 18; refine hT.mono ?_; rintro e w5 ⟨v5, rfl, n5, k5⟩; have N5 : Hid (Li.Nv w5 v5 Y) := n5; have K5 : Hid (Keep w4 w5) := ((Keep.refl w4).alloc _).trans k5; have O5 : Hid (Li.Nv w5 (.slice a n cp) N) := P4.out.keep k5; clear n5 k5)
      | (go_at_call 19; refine (hRn _ _ O5.out N5.out).mono ?_; rintro e w6 ⟨rfl, k6⟩; have K6 : Hid (Keep w4 w6) := K5.out.trans k6; have y6 := K6.out.cell z6; clear k6)
      | (go_at_call 20; refine (hSg _).mono ?_; rintro e w7 ⟨⟨X, rfl, hX⟩, e7⟩; subst e7; replace hX : Hid _ := hX))
    all_goals
      go_ret3
      exact ⟨by rw [hnn.out.1, hnn.out.2]; rfl, K3.out.trans K6.out⟩
  · have hle := hBb.out.2 rfl
    have hSg := fun wx => rsigned_any ng M (by omega) wx
    simp only [if_true] at hRn
    obtain ⟨bb, hbb⟩ : ∃ bb, decide (sgE ng M = 0) = bb := ⟨_, rfl⟩
    rw [hbb] at hSg
    replace hbb : Hid _ := hbb
    cases bb
    all_goals
      go_wp2_with (first
        | (go_at_call 18; refine hT.mono ?_; rintro e w5 ⟨v5, rfl, n5, k5⟩; have N5 : Hid (Li.Nv w5 v5 Y) := n5; have K5 : Hid (Keep w4 w5) := ((Keep.refl w4).alloc _).trans k5; have O5 : Hid (Li.Nv w5 (.slice a n cp) N) := P4.out.keep k5; clear n5 k5)
        | (go_at_call 19; refine (hRn _ _ O5.out N5.out).mono ?_; rintro e w6 ⟨rfl, k6⟩; have K6 : Hid (Keep w4 w6) := K5.out.trans k6; have y6 := K6.out.cell z6; clear k6)
        | (go_at_call 20; refine (hSg _).mono ?_; rintro e w7 ⟨⟨X, rfl, hX⟩, e7⟩; subst e7; replace hX : Hid _ := hX))
    · go_ret3
      have hnn := sg_not ng M (of_decide_eq_false hbb.out)
      exact ⟨by rw [hnn.1, hnn.2]; rfl, K3.out.trans K6.out⟩
    · go_ret3
      have hz := of_decide_eq_true hbb.out
      exact ⟨by rw [hz, ← hX.out hz]; rfl, K3.out.trans K6.out⟩
set_option maxRecDepth 100000 in
set_option maxHeartbeats 2000000 in
theorem rDec_G4_B_true (s : List UInt8) (w : World) (hs : s.length ≤ 4096) (hng : pNg s = true) (hK : 2 < s.length) (c : Nat) (hc : (s.getD 1 0).toNat = c) (hi : c ≠ 105) (hn : c ≠ 110) (hz : c ≠ 48) (x0 x1 x2 : Bool) (x3 x4 : Int) (x5 ng hx : Bool) (wh pt pw : List UInt8) 
    (hSp : ∀ wx, Calls Tryd.prog 15 #[.string ⟨s.toArray⟩] wx fun e w' => e = .returned (.tuple #[.agg (txt x0 x1 x2 x3 x4 x5 ng hx wh pt pw), .int .i64 (-1)]) ∧ Keep wx w')
    (hwd : allD wh) (hpd : allD pt) (hl : wh.length + pt.length ≤ 4096) (PW : Int) (hPw : ∀ wx, Calls Tryd.prog 17 #[.string ⟨pw.toArray⟩] wx fun e w' => e = .returned (.int .i64 PW) ∧ wx = w') (hPb : -100000 ≤ PW ∧ PW ≤ 100000) (N : Nat) (hN : nat (wh ++ pt) = N) (p : Int) (hp : PW - pt.length + 6 = p) (hG : 0 < N) (kk : Nat) (hkk : p = -(kk : Int)) (hk0 : 0 < kk) (hk30 : kk ≤ wh.length + pt.length + 3) :
    Calls Tryd.prog 7 #[.string ⟨s.toArray⟩] w fun e w' => e = .returned (.tuple #[.int .i64 (sgV ng (rup N (10 ^ kk))), .int .i64 (sgE ng (rup N (10 ^ kk))), .int .i64 0]) ∧ Keep w w' := by
  have hll : (wh ++ pt).length ≤ 4096 := by rw [List.length_append]; omega
  have hNb : N < 10 ^ (wh ++ pt).length := by
    have h1 := nat_lt (hwd.app hpd)
    rw [hN] at h1
    exact h1
  have hTb : 1 * 10 ^ kk < 4294967296 ^ 460 := by
    have h2 := pow_limbs (kk + 1) 460 (by omega)
    rw [Nat.pow_succ] at h2
    have h3 : 0 < 10 ^ kk := Nat.pow_pos (by omega)
    omega
  have hNb2 : N < 4294967296 ^ 460 := by
    have h2 := pow_limbs (wh ++ pt).length 460 (by omega)
    omega
  have hk42 : kk < 4200 := by omega
  have hDg := fun wx => Digits_any (wh ++ pt) wx (by rw [List.length_append]; omega) (hwd.app hpd)
  rw [hN] at hDg
  obtain ⟨C, hC⟩ : ∃ C, wh ++ pt = C := ⟨_, rfl⟩
  have hcat : (ByteArray.mk wh.toArray) ++ (ByteArray.mk pt.toArray) = ByteArray.mk C.toArray := by rw [catB, hC]
  rw [hC] at hDg
  have swh : (ByteArray.mk wh.toArray).size = wh.length := sz_mk wh
  have spt : (ByteArray.mk pt.toArray).size = pt.length := sz_mk pt
  obtain ⟨W, hW⟩ : ∃ W, wh.length = W := ⟨_, rfl⟩
  obtain ⟨Q, hQ⟩ : ∃ Q, pt.length = Q := ⟨_, rfl⟩
  rw [hW] at swh hl hk30
  rw [hQ] at spt hl hp hk30
  obtain ⟨hP1, hP2⟩ := hPb
  have x1 : IntKind.i64.wrap (PW - (Q : Int)) = PW - (Q : Int) := by rw [IntWalk.i64_left]; exact IntWalk.wrap64_in _ (by omega)
  have x2 : IntKind.i64.wrap (PW - (Q : Int) + 6) = p := by rw [IntWalk.i64_left, hp]; exact IntWalk.wrap64_in _ (by omega)
  have x3 : IntKind.i64.wrap (-((W : Int) + (Q : Int))) = -((W : Int) + (Q : Int)) := by rw [IntWalk.i64_left]; exact IntWalk.wrap64_in _ (by omega)
  have x4 : IntKind.i64.wrap (-((W : Int) + (Q : Int)) - 3) = -((W : Int) + (Q : Int)) - 3 := by rw [IntWalk.i64_left]; exact IntWalk.wrap64_in _ (by omega)
  replace hp : Hid _ := hp
  clear hNb hll
  replace hTb : Hid _ := hTb
  clear hwd hpd hN hC hW hQ
  have s1 : (ByteArray.mk s.toArray).size = s.length := sz_mk s
  have hix0 : ∀ wx, (Instr.index 9 (.string ⟨s.toArray⟩) (.int .i64 0)).run Tryd.prog wx = .ok (.int .u8 ((s.getD 0 0).toNat : Nat)) wx := fun wx => run_ix s 0 (by omega) wx
  obtain ⟨c0, hc0⟩ : ∃ c0, (s.getD 0 0).toNat = c0 := ⟨_, rfl⟩
  have hcb : ((c0 : Int) == 45) = true := by
    have h1 := ng_of (s := s) (by omega)
    rw [hng, hc0] at h1
    exact eqI (of_decide_eq_true h1.symm)
  rw [hc0] at hix0
  have hix1 : ∀ wx, (Instr.index 9 (.string ⟨s.toArray⟩) (.int .i64 1)).run Tryd.prog wx = .ok (.int .u8 ((s.getD 1 0).toNat : Nat)) wx := fun wx => run_ix s 1 (by omega) wx
  rw [hc] at hix1
  have hi2 : ((c : Int) == 105) = false := neI (by omega)
  have hn2 : ((c : Int) == 110) = false := neI (by omega)
  have hz2 : ((c : Int) == 48) = false := neI (by omega)
  obtain ⟨L, hL⟩ : ∃ L, s.length = L := ⟨_, rfl⟩
  rw [hL] at s1 hs hK
  have hL0 : (0 : Int) < (L : Int) := by omega
  have hL1 : (1 : Int) < (L : Int) := by omega
  have hL2 : (2 : Int) < (L : Int) := by omega
  unfold txt at hSp
  clear hng hL hc0 hc
  subst hkk
  have hq1 : ¬ (30 : Int) < -(kk : Int) := by omega
  have hq2 : ¬ -(kk : Int) < -((W : Int) + (Q : Int)) - 3 := by omega
  have hq3 : -(kk : Int) < 0 := by omega
  obtain ⟨Y, hY⟩ : ∃ Y, (10 : Nat) ^ kk = Y := ⟨_, rfl⟩
  have HY0 : Hid (0 < Y) := by rw [← hY]; exact Nat.pow_pos (by omega)
  have HYb : Hid (Y < 4294967296 ^ 460) := by rw [← hY]; have := hTb.out; rw [Nat.one_mul] at this; exact this
  rw [hY]
  have HY : Hid ((10 : Nat) ^ kk = Y) := hY
  obtain ⟨M, hM⟩ : ∃ M, rup N Y = M := ⟨_, rfl⟩
  rw [hM]
  have HM : Hid (rup N Y = M) := hM
  have HB : Hid (∀ b, Li.rndB N Y = b → (b = false → 9223372036854775808 < M) ∧ (b = true → M ≤ 9223372036854775809)) := by
    intro b hb
    constructor
    · rintro rfl
      have := rnd_no (k := kk) hG hk42 (by rw [hY]; exact hb)
      rw [hY, hM] at this
      exact this
    · rintro rfl
      unfold Li.rndB at hb
      have h1 := (of_decide_eq_true hb).2
      rw [← hM]
      unfold rup
      split <;> omega
  replace hNb2 : Hid _ := hNb2
  clear hM hY hk42
  go_enter Tryd.func7, Tryd.ntmps7
  go_wp2_with (first
    | (go_at_call 15; refine (hSp _).mono ?_; rintro e w2 ⟨rfl, k2⟩; have K2 : Hid (Keep w w2) := k2; clear k2)
    | (go_at_call 16; refine (hDg _).mono ?_; rintro e w3 ⟨v', rfl, nv, k3⟩; obtain ⟨a, cp, n, rfl, hn0⟩ := Nv_len nv; have NV : Hid (Li.Nv w3 (.slice a n cp) N) := nv; have z6 := k3.cell (alloc_cell w2 _ 43 6 _ rfl); have z8 := k3.cell (alloc_cell w2 _ 43 8 _ rfl); have z9 := k3.cell (alloc_cell w2 _ 43 9 _ rfl); have z10 := k3.cell (alloc_cell w2 _ 43 10 _ rfl); have K3 : Hid (Keep w w3) := (K2.out.alloc _).trans k3; have hnb : ¬ n = 0 := (fun q => absurd (hn0.1 q) (by omega)); have hnI : ((n : Int) == 0) = false := neI (by omega); clear k3 nv hn0)
    | fail)
  refine wp_region_quiet_lit (by kernel_rfl) (by kernel_rfl) ?_
  iterate 9
    with_reducible refine wpQuiet_step ?_
    intro K hK
    go_simp
    first
      | (with_reducible refine hK _ ?_; clear hK K)
      | (with_reducible refine (if_neg ?_).mpr (hK _ ?_)
         · decide
         clear hK K)
      | (with_reducible refine ⟨.int .i64 PW, fun aw => (hPw _).mono ?_, hK _ ?_⟩
         · rintro e w' ⟨rfl, rfl⟩; exact ⟨rfl, _, rfl⟩
         clear hK K)
      | (apply Exists.intro
         refine ⟨fun _ => ?_, hK _ ?_⟩
         · with_reducible rfl
         clear hK K)
  refine wpQuiet_nil ?_
  rintro _ ⟨nq, rfl⟩
  replace z6 : (w3.drewN nq).cell? _ = _ := z6
  replace z8 : (w3.drewN nq).cell? _ = _ := z8
  replace z9 : (w3.drewN nq).cell? _ = _ := z9
  replace z10 : (w3.drewN nq).cell? _ = _ := z10
  replace K3 : Hid (Keep w (w3.drewN nq)) := K3.out.drewN nq
  replace NV : Hid (Li.Nv (w3.drewN nq) (.slice a n cp) N) := NV.out
  generalize w3.drewN nq = w4 at z6 z8 z9 z10 K3 NV ⊢
  have O4 : Hid (Li.Nv (w4.alloc (.cells #[.int .u32 1] 49)) (.slice (some ⟨w4.heap.size, 0, none⟩) 1 1) 1) := Nv_one w4
  have P4 : Hid (Li.Nv (w4.alloc (.cells #[.int .u32 1] 49)) (.slice a n cp) N) := NV.out.keep ((Keep.refl w4).alloc _)
  have hT := Li.Ten_nv (.slice (some ⟨w4.heap.size, 0, none⟩) 1 1) 1 kk 460 (w4.alloc (.cells #[.int .u32 1] 49)) O4.out hTb.out (by omega) (by omega)
  rw [Nat.one_mul, HY.out] at hT
  obtain ⟨b, hb⟩ : ∃ b, Li.rndB N Y = b := ⟨_, rfl⟩
  have hBb := HB.out b hb
  have hRn := fun v5 w5 (h : Li.Nv w5 (.slice a n cp) N) (g : Li.Nv w5 v5 Y) => Li.Rounded_nv (.slice a n cp) v5 N Y 460 w5 h g HY0.out hNb2.out HYb.out (by omega)
  rw [hb, show Li.rup N Y = M from HM.out] at hRn
  replace hBb : Hid _ := hBb
  clear hb HB
  cases b
  · have hbig := hBb.out.1 rfl
    have hnn := sg_not ng M (of_decide_eq_false (sgE_big ng hbig))
    have hSg := fun wx => rsigned_any ng 0 (by omega) wx
    rw [(sg_zero ng).1, (sg_zero ng).2] at hSg
    simp only [Bool.false_eq_true, if_false] at hRn
    replace hbig : Hid _ := hbig
    replace hnn : Hid _ := hnn
    go_wp2_with (first
      | (go_at_call 18; refine hT.mono ?_; rintro e w5 ⟨v5, rfl, n5, k5⟩; have N5 : Hid (Li.Nv w5 v5 Y) := n5; have K5 : Hid (Keep w4 w5) := ((Keep.refl w4).alloc _).trans k5; have O5 : Hid (Li.Nv w5 (.slice a n cp) N) := P4.out.keep k5; clear n5 k5)
      | (go_at_call 19; refine (hRn _ _ O5.out N5.out).mono ?_; rintro e w6 ⟨rfl, k6⟩; have K6 : Hid (Keep w4 w6) := K5.out.trans k6; have y6 := K6.out.cell z6; clear k6)
      | (go_at_call 20; refine (hSg _).mono ?_; rintro e w7 ⟨⟨X, rfl, hX⟩, e7⟩; subst e7; replace hX : Hid _ := hX))
    all_goals
      go_ret3
      exact ⟨by rw [hnn.out.1, hnn.out.2]; rfl, K3.out.trans K6.out⟩
  · have hle := hBb.out.2 rfl
    have hSg := fun wx => rsigned_any ng M (by omega) wx
    simp only [if_true] at hRn
    obtain ⟨bb, hbb⟩ : ∃ bb, decide (sgE ng M = 0) = bb := ⟨_, rfl⟩
    rw [hbb] at hSg
    replace hbb : Hid _ := hbb
    cases bb
    all_goals
      go_wp2_with (first
        | (go_at_call 18; refine hT.mono ?_; rintro e w5 ⟨v5, rfl, n5, k5⟩; have N5 : Hid (Li.Nv w5 v5 Y) := n5; have K5 : Hid (Keep w4 w5) := ((Keep.refl w4).alloc _).trans k5; have O5 : Hid (Li.Nv w5 (.slice a n cp) N) := P4.out.keep k5; clear n5 k5)
        | (go_at_call 19; refine (hRn _ _ O5.out N5.out).mono ?_; rintro e w6 ⟨rfl, k6⟩; have K6 : Hid (Keep w4 w6) := K5.out.trans k6; have y6 := K6.out.cell z6; clear k6)
        | (go_at_call 20; refine (hSg _).mono ?_; rintro e w7 ⟨⟨X, rfl, hX⟩, e7⟩; subst e7; replace hX : Hid _ := hX))
    · go_ret3
      have hnn := sg_not ng M (of_decide_eq_false hbb.out)
      exact ⟨by rw [hnn.1, hnn.2]; rfl, K3.out.trans K6.out⟩
    · go_ret3
      have hz := of_decide_eq_true hbb.out
      exact ⟨by rw [hz, ← hX.out hz]; rfl, K3.out.trans K6.out⟩
set_option maxRecDepth 100000 in
set_option maxHeartbeats 2000000 in
theorem rDec_G4_B_false (s : List UInt8) (w : World) (hs : s.length ≤ 4096) (hng : pNg s = false) (hK : 1 < s.length) (c : Nat) (hc : (s.getD 0 0).toNat = c) (hi : c ≠ 105) (hn : c ≠ 110) (hz : c ≠ 48) (x0 x1 x2 : Bool) (x3 x4 : Int) (x5 ng hx : Bool) (wh pt pw : List UInt8) 
    (hSp : ∀ wx, Calls Tryd.prog 15 #[.string ⟨s.toArray⟩] wx fun e w' => e = .returned (.tuple #[.agg (txt x0 x1 x2 x3 x4 x5 ng hx wh pt pw), .int .i64 (-1)]) ∧ Keep wx w')
    (hwd : allD wh) (hpd : allD pt) (hl : wh.length + pt.length ≤ 4096) (PW : Int) (hPw : ∀ wx, Calls Tryd.prog 17 #[.string ⟨pw.toArray⟩] wx fun e w' => e = .returned (.int .i64 PW) ∧ wx = w') (hPb : -100000 ≤ PW ∧ PW ≤ 100000) (N : Nat) (hN : nat (wh ++ pt) = N) (p : Int) (hp : PW - pt.length + 6 = p) (hG : 0 < N) (kk : Nat) (hkk : p = -(kk : Int)) (hk0 : 0 < kk) (hk30 : kk ≤ wh.length + pt.length + 3) :
    Calls Tryd.prog 7 #[.string ⟨s.toArray⟩] w fun e w' => e = .returned (.tuple #[.int .i64 (sgV ng (rup N (10 ^ kk))), .int .i64 (sgE ng (rup N (10 ^ kk))), .int .i64 0]) ∧ Keep w w' := by
  have hll : (wh ++ pt).length ≤ 4096 := by rw [List.length_append]; omega
  have hNb : N < 10 ^ (wh ++ pt).length := by
    have h1 := nat_lt (hwd.app hpd)
    rw [hN] at h1
    exact h1
  have hTb : 1 * 10 ^ kk < 4294967296 ^ 460 := by
    have h2 := pow_limbs (kk + 1) 460 (by omega)
    rw [Nat.pow_succ] at h2
    have h3 : 0 < 10 ^ kk := Nat.pow_pos (by omega)
    omega
  have hNb2 : N < 4294967296 ^ 460 := by
    have h2 := pow_limbs (wh ++ pt).length 460 (by omega)
    omega
  have hk42 : kk < 4200 := by omega
  have hDg := fun wx => Digits_any (wh ++ pt) wx (by rw [List.length_append]; omega) (hwd.app hpd)
  rw [hN] at hDg
  obtain ⟨C, hC⟩ : ∃ C, wh ++ pt = C := ⟨_, rfl⟩
  have hcat : (ByteArray.mk wh.toArray) ++ (ByteArray.mk pt.toArray) = ByteArray.mk C.toArray := by rw [catB, hC]
  rw [hC] at hDg
  have swh : (ByteArray.mk wh.toArray).size = wh.length := sz_mk wh
  have spt : (ByteArray.mk pt.toArray).size = pt.length := sz_mk pt
  obtain ⟨W, hW⟩ : ∃ W, wh.length = W := ⟨_, rfl⟩
  obtain ⟨Q, hQ⟩ : ∃ Q, pt.length = Q := ⟨_, rfl⟩
  rw [hW] at swh hl hk30
  rw [hQ] at spt hl hp hk30
  obtain ⟨hP1, hP2⟩ := hPb
  have x1 : IntKind.i64.wrap (PW - (Q : Int)) = PW - (Q : Int) := by rw [IntWalk.i64_left]; exact IntWalk.wrap64_in _ (by omega)
  have x2 : IntKind.i64.wrap (PW - (Q : Int) + 6) = p := by rw [IntWalk.i64_left, hp]; exact IntWalk.wrap64_in _ (by omega)
  have x3 : IntKind.i64.wrap (-((W : Int) + (Q : Int))) = -((W : Int) + (Q : Int)) := by rw [IntWalk.i64_left]; exact IntWalk.wrap64_in _ (by omega)
  have x4 : IntKind.i64.wrap (-((W : Int) + (Q : Int)) - 3) = -((W : Int) + (Q : Int)) - 3 := by rw [IntWalk.i64_left]; exact IntWalk.wrap64_in _ (by omega)
  replace hp : Hid _ := hp
  clear hNb hll
  replace hTb : Hid _ := hTb
  clear hwd hpd hN hC hW hQ
  have s1 : (ByteArray.mk s.toArray).size = s.length := sz_mk s
  have hix0 : ∀ wx, (Instr.index 9 (.string ⟨s.toArray⟩) (.int .i64 0)).run Tryd.prog wx = .ok (.int .u8 ((s.getD 0 0).toNat : Nat)) wx := fun wx => run_ix s 0 (by omega) wx
  obtain ⟨c0, hc0⟩ : ∃ c0, (s.getD 0 0).toNat = c0 := ⟨_, rfl⟩
  have hcb : ((c0 : Int) == 45) = false := by
    have h1 := ng_of (s := s) (by omega)
    rw [hng, hc0] at h1
    exact neI (by have := of_decide_eq_false h1.symm; omega)
  rw [hc0] at hix0
  obtain rfl : c = c0 := by rw [← hc, hc0]
  have hi2 : ((c : Int) == 105) = false := neI (by omega)
  have hn2 : ((c : Int) == 110) = false := neI (by omega)
  have hz2 : ((c : Int) == 48) = false := neI (by omega)
  obtain ⟨L, hL⟩ : ∃ L, s.length = L := ⟨_, rfl⟩
  rw [hL] at s1 hs hK
  have hL0 : (0 : Int) < (L : Int) := by omega
  have hL1 : (0 : Int) < (L : Int) := by omega
  have hL2 : (1 : Int) < (L : Int) := by omega
  unfold txt at hSp
  clear hng hL hc0 hc
  subst hkk
  have hq1 : ¬ (30 : Int) < -(kk : Int) := by omega
  have hq2 : ¬ -(kk : Int) < -((W : Int) + (Q : Int)) - 3 := by omega
  have hq3 : -(kk : Int) < 0 := by omega
  obtain ⟨Y, hY⟩ : ∃ Y, (10 : Nat) ^ kk = Y := ⟨_, rfl⟩
  have HY0 : Hid (0 < Y) := by rw [← hY]; exact Nat.pow_pos (by omega)
  have HYb : Hid (Y < 4294967296 ^ 460) := by rw [← hY]; have := hTb.out; rw [Nat.one_mul] at this; exact this
  rw [hY]
  have HY : Hid ((10 : Nat) ^ kk = Y) := hY
  obtain ⟨M, hM⟩ : ∃ M, rup N Y = M := ⟨_, rfl⟩
  rw [hM]
  have HM : Hid (rup N Y = M) := hM
  have HB : Hid (∀ b, Li.rndB N Y = b → (b = false → 9223372036854775808 < M) ∧ (b = true → M ≤ 9223372036854775809)) := by
    intro b hb
    constructor
    · rintro rfl
      have := rnd_no (k := kk) hG hk42 (by rw [hY]; exact hb)
      rw [hY, hM] at this
      exact this
    · rintro rfl
      unfold Li.rndB at hb
      have h1 := (of_decide_eq_true hb).2
      rw [← hM]
      unfold rup
      split <;> omega
  replace hNb2 : Hid _ := hNb2
  clear hM hY hk42
  go_enter Tryd.func7, Tryd.ntmps7
  go_wp2_with (first
    | (go_at_call 15; refine (hSp _).mono ?_; rintro e w2 ⟨rfl, k2⟩; have K2 : Hid (Keep w w2) := k2; clear k2)
    | (go_at_call 16; refine (hDg _).mono ?_; rintro e w3 ⟨v', rfl, nv, k3⟩; obtain ⟨a, cp, n, rfl, hn0⟩ := Nv_len nv; have NV : Hid (Li.Nv w3 (.slice a n cp) N) := nv; have z6 := k3.cell (alloc_cell w2 _ 43 6 _ rfl); have z8 := k3.cell (alloc_cell w2 _ 43 8 _ rfl); have z9 := k3.cell (alloc_cell w2 _ 43 9 _ rfl); have z10 := k3.cell (alloc_cell w2 _ 43 10 _ rfl); have K3 : Hid (Keep w w3) := (K2.out.alloc _).trans k3; have hnb : ¬ n = 0 := (fun q => absurd (hn0.1 q) (by omega)); have hnI : ((n : Int) == 0) = false := neI (by omega); clear k3 nv hn0)
    | fail)
  refine wp_region_quiet_lit (by kernel_rfl) (by kernel_rfl) ?_
  iterate 9
    with_reducible refine wpQuiet_step ?_
    intro K hK
    go_simp
    first
      | (with_reducible refine hK _ ?_; clear hK K)
      | (with_reducible refine (if_neg ?_).mpr (hK _ ?_)
         · decide
         clear hK K)
      | (with_reducible refine ⟨.int .i64 PW, fun aw => (hPw _).mono ?_, hK _ ?_⟩
         · rintro e w' ⟨rfl, rfl⟩; exact ⟨rfl, _, rfl⟩
         clear hK K)
      | (apply Exists.intro
         refine ⟨fun _ => ?_, hK _ ?_⟩
         · with_reducible rfl
         clear hK K)
  refine wpQuiet_nil ?_
  rintro _ ⟨nq, rfl⟩
  replace z6 : (w3.drewN nq).cell? _ = _ := z6
  replace z8 : (w3.drewN nq).cell? _ = _ := z8
  replace z9 : (w3.drewN nq).cell? _ = _ := z9
  replace z10 : (w3.drewN nq).cell? _ = _ := z10
  replace K3 : Hid (Keep w (w3.drewN nq)) := K3.out.drewN nq
  replace NV : Hid (Li.Nv (w3.drewN nq) (.slice a n cp) N) := NV.out
  generalize w3.drewN nq = w4 at z6 z8 z9 z10 K3 NV ⊢
  have O4 : Hid (Li.Nv (w4.alloc (.cells #[.int .u32 1] 49)) (.slice (some ⟨w4.heap.size, 0, none⟩) 1 1) 1) := Nv_one w4
  have P4 : Hid (Li.Nv (w4.alloc (.cells #[.int .u32 1] 49)) (.slice a n cp) N) := NV.out.keep ((Keep.refl w4).alloc _)
  have hT := Li.Ten_nv (.slice (some ⟨w4.heap.size, 0, none⟩) 1 1) 1 kk 460 (w4.alloc (.cells #[.int .u32 1] 49)) O4.out hTb.out (by omega) (by omega)
  rw [Nat.one_mul, HY.out] at hT
  obtain ⟨b, hb⟩ : ∃ b, Li.rndB N Y = b := ⟨_, rfl⟩
  have hBb := HB.out b hb
  have hRn := fun v5 w5 (h : Li.Nv w5 (.slice a n cp) N) (g : Li.Nv w5 v5 Y) => Li.Rounded_nv (.slice a n cp) v5 N Y 460 w5 h g HY0.out hNb2.out HYb.out (by omega)
  rw [hb, show Li.rup N Y = M from HM.out] at hRn
  replace hBb : Hid _ := hBb
  clear hb HB
  cases b
  · have hbig := hBb.out.1 rfl
    have hnn := sg_not ng M (of_decide_eq_false (sgE_big ng hbig))
    have hSg := fun wx => rsigned_any ng 0 (by omega) wx
    rw [(sg_zero ng).1, (sg_zero ng).2] at hSg
    simp only [Bool.false_eq_true, if_false] at hRn
    replace hbig : Hid _ := hbig
    replace hnn : Hid _ := hnn
    go_wp2_with (first
      | (go_at_call 18; refine hT.mono ?_; rintro e w5 ⟨v5, rfl, n5, k5⟩; have N5 : Hid (Li.Nv w5 v5 Y) := n5; have K5 : Hid (Keep w4 w5) := ((Keep.refl w4).alloc _).trans k5; have O5 : Hid (Li.Nv w5 (.slice a n cp) N) := P4.out.keep k5; clear n5 k5)
      | (go_at_call 19; refine (hRn _ _ O5.out N5.out).mono ?_; rintro e w6 ⟨rfl, k6⟩; have K6 : Hid (Keep w4 w6) := K5.out.trans k6; have y6 := K6.out.cell z6; clear k6)
      | (go_at_call 20; refine (hSg _).mono ?_; rintro e w7 ⟨⟨X, rfl, hX⟩, e7⟩; subst e7; replace hX : Hid _ := hX))
    all_goals
      go_ret3
      exact ⟨by rw [hnn.out.1, hnn.out.2]; rfl, K3.out.trans K6.out⟩
  · have hle := hBb.out.2 rfl
    have hSg := fun wx => rsigned_any ng M (by omega) wx
    simp only [if_true] at hRn
    obtain ⟨bb, hbb⟩ : ∃ bb, decide (sgE ng M = 0) = bb := ⟨_, rfl⟩
    rw [hbb] at hSg
    replace hbb : Hid _ := hbb
    cases bb
    all_goals
      go_wp2_with (first
        | (go_at_call 18; refine hT.mono ?_; rintro e w5 ⟨v5, rfl, n5, k5⟩; have N5 : Hid (Li.Nv w5 v5 Y) := n5; have K5 : Hid (Keep w4 w5) := ((Keep.refl w4).alloc _).trans k5; have O5 : Hid (Li.Nv w5 (.slice a n cp) N) := P4.out.keep k5; clear n5 k5)
        | (go_at_call 19; refine (hRn _ _ O5.out N5.out).mono ?_; rintro e w6 ⟨rfl, k6⟩; have K6 : Hid (Keep w4 w6) := K5.out.trans k6; have y6 := K6.out.cell z6; clear k6)
        | (go_at_call 20; refine (hSg _).mono ?_; rintro e w7 ⟨⟨X, rfl, hX⟩, e7⟩; subst e7; replace hX : Hid _ := hX))
    · go_ret3
      have hnn := sg_not ng M (of_decide_eq_false hbb.out)
      exact ⟨by rw [hnn.1, hnn.2]; rfl, K3.out.trans K6.out⟩
    · go_ret3
      have hz := of_decide_eq_true hbb.out
      exact ⟨by rw [hz, ← hX.out hz]; rfl, K3.out.trans K6.out⟩
set_option maxRecDepth 100000 in
set_option maxHeartbeats 2000000 in
theorem rDec_G4_C_true (s : List UInt8) (w : World) (hs : s.length ≤ 4096) (hng : pNg s = true) (hK : 2 < s.length) (hc : (s.getD 1 0).toNat = 48) (d : Nat) (hd : (s.getD 2 0).toNat = d) (hz : d ≠ 120) (x0 x1 x2 : Bool) (x3 x4 : Int) (x5 ng hx : Bool) (wh pt pw : List UInt8) 
    (hSp : ∀ wx, Calls Tryd.prog 15 #[.string ⟨s.toArray⟩] wx fun e w' => e = .returned (.tuple #[.agg (txt x0 x1 x2 x3 x4 x5 ng hx wh pt pw), .int .i64 (-1)]) ∧ Keep wx w')
    (hwd : allD wh) (hpd : allD pt) (hl : wh.length + pt.length ≤ 4096) (PW : Int) (hPw : ∀ wx, Calls Tryd.prog 17 #[.string ⟨pw.toArray⟩] wx fun e w' => e = .returned (.int .i64 PW) ∧ wx = w') (hPb : -100000 ≤ PW ∧ PW ≤ 100000) (N : Nat) (hN : nat (wh ++ pt) = N) (p : Int) (hp : PW - pt.length + 6 = p) (hG : 0 < N) (kk : Nat) (hkk : p = -(kk : Int)) (hk0 : 0 < kk) (hk30 : kk ≤ wh.length + pt.length + 3) :
    Calls Tryd.prog 7 #[.string ⟨s.toArray⟩] w fun e w' => e = .returned (.tuple #[.int .i64 (sgV ng (rup N (10 ^ kk))), .int .i64 (sgE ng (rup N (10 ^ kk))), .int .i64 0]) ∧ Keep w w' := by
  have hll : (wh ++ pt).length ≤ 4096 := by rw [List.length_append]; omega
  have hNb : N < 10 ^ (wh ++ pt).length := by
    have h1 := nat_lt (hwd.app hpd)
    rw [hN] at h1
    exact h1
  have hTb : 1 * 10 ^ kk < 4294967296 ^ 460 := by
    have h2 := pow_limbs (kk + 1) 460 (by omega)
    rw [Nat.pow_succ] at h2
    have h3 : 0 < 10 ^ kk := Nat.pow_pos (by omega)
    omega
  have hNb2 : N < 4294967296 ^ 460 := by
    have h2 := pow_limbs (wh ++ pt).length 460 (by omega)
    omega
  have hk42 : kk < 4200 := by omega
  have hDg := fun wx => Digits_any (wh ++ pt) wx (by rw [List.length_append]; omega) (hwd.app hpd)
  rw [hN] at hDg
  obtain ⟨C, hC⟩ : ∃ C, wh ++ pt = C := ⟨_, rfl⟩
  have hcat : (ByteArray.mk wh.toArray) ++ (ByteArray.mk pt.toArray) = ByteArray.mk C.toArray := by rw [catB, hC]
  rw [hC] at hDg
  have swh : (ByteArray.mk wh.toArray).size = wh.length := sz_mk wh
  have spt : (ByteArray.mk pt.toArray).size = pt.length := sz_mk pt
  obtain ⟨W, hW⟩ : ∃ W, wh.length = W := ⟨_, rfl⟩
  obtain ⟨Q, hQ⟩ : ∃ Q, pt.length = Q := ⟨_, rfl⟩
  rw [hW] at swh hl hk30
  rw [hQ] at spt hl hp hk30
  obtain ⟨hP1, hP2⟩ := hPb
  have x1 : IntKind.i64.wrap (PW - (Q : Int)) = PW - (Q : Int) := by rw [IntWalk.i64_left]; exact IntWalk.wrap64_in _ (by omega)
  have x2 : IntKind.i64.wrap (PW - (Q : Int) + 6) = p := by rw [IntWalk.i64_left, hp]; exact IntWalk.wrap64_in _ (by omega)
  have x3 : IntKind.i64.wrap (-((W : Int) + (Q : Int))) = -((W : Int) + (Q : Int)) := by rw [IntWalk.i64_left]; exact IntWalk.wrap64_in _ (by omega)
  have x4 : IntKind.i64.wrap (-((W : Int) + (Q : Int)) - 3) = -((W : Int) + (Q : Int)) - 3 := by rw [IntWalk.i64_left]; exact IntWalk.wrap64_in _ (by omega)
  replace hp : Hid _ := hp
  clear hNb hll
  replace hTb : Hid _ := hTb
  clear hwd hpd hN hC hW hQ
  have s1 : (ByteArray.mk s.toArray).size = s.length := sz_mk s
  have hix0 : ∀ wx, (Instr.index 9 (.string ⟨s.toArray⟩) (.int .i64 0)).run Tryd.prog wx = .ok (.int .u8 ((s.getD 0 0).toNat : Nat)) wx := fun wx => run_ix s 0 (by omega) wx
  obtain ⟨c0, hc0⟩ : ∃ c0, (s.getD 0 0).toNat = c0 := ⟨_, rfl⟩
  have hcb : ((c0 : Int) == 45) = true := by
    have h1 := ng_of (s := s) (by omega)
    rw [hng, hc0] at h1
    exact eqI (of_decide_eq_true h1.symm)
  rw [hc0] at hix0
  have hix1 : ∀ wx, (Instr.index 9 (.string ⟨s.toArray⟩) (.int .i64 1)).run Tryd.prog wx = .ok (.int .u8 ((s.getD 1 0).toNat : Nat)) wx := fun wx => run_ix s 1 (by omega) wx
  rw [hc] at hix1
  have hix2 : ∀ wx, (Instr.index 9 (.string ⟨s.toArray⟩) (.int .i64 2)).run Tryd.prog wx = .ok (.int .u8 ((s.getD 2 0).toNat : Nat)) wx := fun wx => run_ix s 2 (by omega) wx
  rw [hd] at hix2
  have hz2 : ((d : Int) == 120) = false := neI (by omega)
  obtain ⟨L, hL⟩ : ∃ L, s.length = L := ⟨_, rfl⟩
  rw [hL] at s1 hs hK
  have hL0 : (0 : Int) < (L : Int) := by omega
  have hL1 : (1 : Int) < (L : Int) := by omega
  have hL2 : (2 : Int) < (L : Int) := by omega
  unfold txt at hSp
  clear hng hL hc0 hc hd
  subst hkk
  have hq1 : ¬ (30 : Int) < -(kk : Int) := by omega
  have hq2 : ¬ -(kk : Int) < -((W : Int) + (Q : Int)) - 3 := by omega
  have hq3 : -(kk : Int) < 0 := by omega
  obtain ⟨Y, hY⟩ : ∃ Y, (10 : Nat) ^ kk = Y := ⟨_, rfl⟩
  have HY0 : Hid (0 < Y) := by rw [← hY]; exact Nat.pow_pos (by omega)
  have HYb : Hid (Y < 4294967296 ^ 460) := by rw [← hY]; have := hTb.out; rw [Nat.one_mul] at this; exact this
  rw [hY]
  have HY : Hid ((10 : Nat) ^ kk = Y) := hY
  obtain ⟨M, hM⟩ : ∃ M, rup N Y = M := ⟨_, rfl⟩
  rw [hM]
  have HM : Hid (rup N Y = M) := hM
  have HB : Hid (∀ b, Li.rndB N Y = b → (b = false → 9223372036854775808 < M) ∧ (b = true → M ≤ 9223372036854775809)) := by
    intro b hb
    constructor
    · rintro rfl
      have := rnd_no (k := kk) hG hk42 (by rw [hY]; exact hb)
      rw [hY, hM] at this
      exact this
    · rintro rfl
      unfold Li.rndB at hb
      have h1 := (of_decide_eq_true hb).2
      rw [← hM]
      unfold rup
      split <;> omega
  replace hNb2 : Hid _ := hNb2
  clear hM hY hk42
  go_enter Tryd.func7, Tryd.ntmps7
  go_wp2_with (first
    | (go_at_call 15; refine (hSp _).mono ?_; rintro e w2 ⟨rfl, k2⟩; have K2 : Hid (Keep w w2) := k2; clear k2)
    | (go_at_call 16; refine (hDg _).mono ?_; rintro e w3 ⟨v', rfl, nv, k3⟩; obtain ⟨a, cp, n, rfl, hn0⟩ := Nv_len nv; have NV : Hid (Li.Nv w3 (.slice a n cp) N) := nv; have z6 := k3.cell (alloc_cell w2 _ 43 6 _ rfl); have z8 := k3.cell (alloc_cell w2 _ 43 8 _ rfl); have z9 := k3.cell (alloc_cell w2 _ 43 9 _ rfl); have z10 := k3.cell (alloc_cell w2 _ 43 10 _ rfl); have K3 : Hid (Keep w w3) := (K2.out.alloc _).trans k3; have hnb : ¬ n = 0 := (fun q => absurd (hn0.1 q) (by omega)); have hnI : ((n : Int) == 0) = false := neI (by omega); clear k3 nv hn0)
    | fail)
  refine wp_region_quiet_lit (by kernel_rfl) (by kernel_rfl) ?_
  iterate 9
    with_reducible refine wpQuiet_step ?_
    intro K hK
    go_simp
    first
      | (with_reducible refine hK _ ?_; clear hK K)
      | (with_reducible refine (if_neg ?_).mpr (hK _ ?_)
         · decide
         clear hK K)
      | (with_reducible refine ⟨.int .i64 PW, fun aw => (hPw _).mono ?_, hK _ ?_⟩
         · rintro e w' ⟨rfl, rfl⟩; exact ⟨rfl, _, rfl⟩
         clear hK K)
      | (apply Exists.intro
         refine ⟨fun _ => ?_, hK _ ?_⟩
         · with_reducible rfl
         clear hK K)
  refine wpQuiet_nil ?_
  rintro _ ⟨nq, rfl⟩
  replace z6 : (w3.drewN nq).cell? _ = _ := z6
  replace z8 : (w3.drewN nq).cell? _ = _ := z8
  replace z9 : (w3.drewN nq).cell? _ = _ := z9
  replace z10 : (w3.drewN nq).cell? _ = _ := z10
  replace K3 : Hid (Keep w (w3.drewN nq)) := K3.out.drewN nq
  replace NV : Hid (Li.Nv (w3.drewN nq) (.slice a n cp) N) := NV.out
  generalize w3.drewN nq = w4 at z6 z8 z9 z10 K3 NV ⊢
  have O4 : Hid (Li.Nv (w4.alloc (.cells #[.int .u32 1] 49)) (.slice (some ⟨w4.heap.size, 0, none⟩) 1 1) 1) := Nv_one w4
  have P4 : Hid (Li.Nv (w4.alloc (.cells #[.int .u32 1] 49)) (.slice a n cp) N) := NV.out.keep ((Keep.refl w4).alloc _)
  have hT := Li.Ten_nv (.slice (some ⟨w4.heap.size, 0, none⟩) 1 1) 1 kk 460 (w4.alloc (.cells #[.int .u32 1] 49)) O4.out hTb.out (by omega) (by omega)
  rw [Nat.one_mul, HY.out] at hT
  obtain ⟨b, hb⟩ : ∃ b, Li.rndB N Y = b := ⟨_, rfl⟩
  have hBb := HB.out b hb
  have hRn := fun v5 w5 (h : Li.Nv w5 (.slice a n cp) N) (g : Li.Nv w5 v5 Y) => Li.Rounded_nv (.slice a n cp) v5 N Y 460 w5 h g HY0.out hNb2.out HYb.out (by omega)
  rw [hb, show Li.rup N Y = M from HM.out] at hRn
  replace hBb : Hid _ := hBb
  clear hb HB
  cases b
  · have hbig := hBb.out.1 rfl
    have hnn := sg_not ng M (of_decide_eq_false (sgE_big ng hbig))
    have hSg := fun wx => rsigned_any ng 0 (by omega) wx
    rw [(sg_zero ng).1, (sg_zero ng).2] at hSg
    simp only [Bool.false_eq_true, if_false] at hRn
    replace hbig : Hid _ := hbig
    replace hnn : Hid _ := hnn
    go_wp2_with (first
      | (go_at_call 18; refine hT.mono ?_; rintro e w5 ⟨v5, rfl, n5, k5⟩; have N5 : Hid (Li.Nv w5 v5 Y) := n5; have K5 : Hid (Keep w4 w5) := ((Keep.refl w4).alloc _).trans k5; have O5 : Hid (Li.Nv w5 (.slice a n cp) N) := P4.out.keep k5; clear n5 k5)
      | (go_at_call 19; refine (hRn _ _ O5.out N5.out).mono ?_; rintro e w6 ⟨rfl, k6⟩; have K6 : Hid (Keep w4 w6) := K5.out.trans k6; have y6 := K6.out.cell z6; clear k6)
      | (go_at_call 20; refine (hSg _).mono ?_; rintro e w7 ⟨⟨X, rfl, hX⟩, e7⟩; subst e7; replace hX : Hid _ := hX))
    all_goals
      go_ret3
      exact ⟨by rw [hnn.out.1, hnn.out.2]; rfl, K3.out.trans K6.out⟩
  · have hle := hBb.out.2 rfl
    have hSg := fun wx => rsigned_any ng M (by omega) wx
    simp only [if_true] at hRn
    obtain ⟨bb, hbb⟩ : ∃ bb, decide (sgE ng M = 0) = bb := ⟨_, rfl⟩
    rw [hbb] at hSg
    replace hbb : Hid _ := hbb
    cases bb
    all_goals
      go_wp2_with (first
        | (go_at_call 18; refine hT.mono ?_; rintro e w5 ⟨v5, rfl, n5, k5⟩; have N5 : Hid (Li.Nv w5 v5 Y) := n5; have K5 : Hid (Keep w4 w5) := ((Keep.refl w4).alloc _).trans k5; have O5 : Hid (Li.Nv w5 (.slice a n cp) N) := P4.out.keep k5; clear n5 k5)
        | (go_at_call 19; refine (hRn _ _ O5.out N5.out).mono ?_; rintro e w6 ⟨rfl, k6⟩; have K6 : Hid (Keep w4 w6) := K5.out.trans k6; have y6 := K6.out.cell z6; clear k6)
        | (go_at_call 20; refine (hSg _).mono ?_; rintro e w7 ⟨⟨X, rfl, hX⟩, e7⟩; subst e7; replace hX : Hid _ := hX))
    · go_ret3
      have hnn := sg_not ng M (of_decide_eq_false hbb.out)
      exact ⟨by rw [hnn.1, hnn.2]; rfl, K3.out.trans K6.out⟩
    · go_ret3
      have hz := of_decide_eq_true hbb.out
      exact ⟨by rw [hz, ← hX.out hz]; rfl, K3.out.trans K6.out⟩
set_option maxRecDepth 100000 in
set_option maxHeartbeats 2000000 in
theorem rDec_G4_C_false (s : List UInt8) (w : World) (hs : s.length ≤ 4096) (hng : pNg s = false) (hK : 1 < s.length) (hc : (s.getD 0 0).toNat = 48) (d : Nat) (hd : (s.getD 1 0).toNat = d) (hz : d ≠ 120) (x0 x1 x2 : Bool) (x3 x4 : Int) (x5 ng hx : Bool) (wh pt pw : List UInt8) 
    (hSp : ∀ wx, Calls Tryd.prog 15 #[.string ⟨s.toArray⟩] wx fun e w' => e = .returned (.tuple #[.agg (txt x0 x1 x2 x3 x4 x5 ng hx wh pt pw), .int .i64 (-1)]) ∧ Keep wx w')
    (hwd : allD wh) (hpd : allD pt) (hl : wh.length + pt.length ≤ 4096) (PW : Int) (hPw : ∀ wx, Calls Tryd.prog 17 #[.string ⟨pw.toArray⟩] wx fun e w' => e = .returned (.int .i64 PW) ∧ wx = w') (hPb : -100000 ≤ PW ∧ PW ≤ 100000) (N : Nat) (hN : nat (wh ++ pt) = N) (p : Int) (hp : PW - pt.length + 6 = p) (hG : 0 < N) (kk : Nat) (hkk : p = -(kk : Int)) (hk0 : 0 < kk) (hk30 : kk ≤ wh.length + pt.length + 3) :
    Calls Tryd.prog 7 #[.string ⟨s.toArray⟩] w fun e w' => e = .returned (.tuple #[.int .i64 (sgV ng (rup N (10 ^ kk))), .int .i64 (sgE ng (rup N (10 ^ kk))), .int .i64 0]) ∧ Keep w w' := by
  have hll : (wh ++ pt).length ≤ 4096 := by rw [List.length_append]; omega
  have hNb : N < 10 ^ (wh ++ pt).length := by
    have h1 := nat_lt (hwd.app hpd)
    rw [hN] at h1
    exact h1
  have hTb : 1 * 10 ^ kk < 4294967296 ^ 460 := by
    have h2 := pow_limbs (kk + 1) 460 (by omega)
    rw [Nat.pow_succ] at h2
    have h3 : 0 < 10 ^ kk := Nat.pow_pos (by omega)
    omega
  have hNb2 : N < 4294967296 ^ 460 := by
    have h2 := pow_limbs (wh ++ pt).length 460 (by omega)
    omega
  have hk42 : kk < 4200 := by omega
  have hDg := fun wx => Digits_any (wh ++ pt) wx (by rw [List.length_append]; omega) (hwd.app hpd)
  rw [hN] at hDg
  obtain ⟨C, hC⟩ : ∃ C, wh ++ pt = C := ⟨_, rfl⟩
  have hcat : (ByteArray.mk wh.toArray) ++ (ByteArray.mk pt.toArray) = ByteArray.mk C.toArray := by rw [catB, hC]
  rw [hC] at hDg
  have swh : (ByteArray.mk wh.toArray).size = wh.length := sz_mk wh
  have spt : (ByteArray.mk pt.toArray).size = pt.length := sz_mk pt
  obtain ⟨W, hW⟩ : ∃ W, wh.length = W := ⟨_, rfl⟩
  obtain ⟨Q, hQ⟩ : ∃ Q, pt.length = Q := ⟨_, rfl⟩
  rw [hW] at swh hl hk30
  rw [hQ] at spt hl hp hk30
  obtain ⟨hP1, hP2⟩ := hPb
  have x1 : IntKind.i64.wrap (PW - (Q : Int)) = PW - (Q : Int) := by rw [IntWalk.i64_left]; exact IntWalk.wrap64_in _ (by omega)
  have x2 : IntKind.i64.wrap (PW - (Q : Int) + 6) = p := by rw [IntWalk.i64_left, hp]; exact IntWalk.wrap64_in _ (by omega)
  have x3 : IntKind.i64.wrap (-((W : Int) + (Q : Int))) = -((W : Int) + (Q : Int)) := by rw [IntWalk.i64_left]; exact IntWalk.wrap64_in _ (by omega)
  have x4 : IntKind.i64.wrap (-((W : Int) + (Q : Int)) - 3) = -((W : Int) + (Q : Int)) - 3 := by rw [IntWalk.i64_left]; exact IntWalk.wrap64_in _ (by omega)
  replace hp : Hid _ := hp
  clear hNb hll
  replace hTb : Hid _ := hTb
  clear hwd hpd hN hC hW hQ
  have s1 : (ByteArray.mk s.toArray).size = s.length := sz_mk s
  have hix0 : ∀ wx, (Instr.index 9 (.string ⟨s.toArray⟩) (.int .i64 0)).run Tryd.prog wx = .ok (.int .u8 ((s.getD 0 0).toNat : Nat)) wx := fun wx => run_ix s 0 (by omega) wx
  obtain ⟨c0, hc0⟩ : ∃ c0, (s.getD 0 0).toNat = c0 := ⟨_, rfl⟩
  have hcb : ((c0 : Int) == 45) = false := by
    have h1 := ng_of (s := s) (by omega)
    rw [hng, hc0] at h1
    exact neI (by have := of_decide_eq_false h1.symm; omega)
  rw [hc0] at hix0
  obtain rfl : c0 = 48 := by rw [← hc0, hc]
  have hix2 : ∀ wx, (Instr.index 9 (.string ⟨s.toArray⟩) (.int .i64 1)).run Tryd.prog wx = .ok (.int .u8 ((s.getD 1 0).toNat : Nat)) wx := fun wx => run_ix s 1 (by omega) wx
  rw [hd] at hix2
  have hz2 : ((d : Int) == 120) = false := neI (by omega)
  obtain ⟨L, hL⟩ : ∃ L, s.length = L := ⟨_, rfl⟩
  rw [hL] at s1 hs hK
  have hL0 : (0 : Int) < (L : Int) := by omega
  have hL1 : (0 : Int) < (L : Int) := by omega
  have hL2 : (1 : Int) < (L : Int) := by omega
  unfold txt at hSp
  clear hng hL hc0 hc hd
  subst hkk
  have hq1 : ¬ (30 : Int) < -(kk : Int) := by omega
  have hq2 : ¬ -(kk : Int) < -((W : Int) + (Q : Int)) - 3 := by omega
  have hq3 : -(kk : Int) < 0 := by omega
  obtain ⟨Y, hY⟩ : ∃ Y, (10 : Nat) ^ kk = Y := ⟨_, rfl⟩
  have HY0 : Hid (0 < Y) := by rw [← hY]; exact Nat.pow_pos (by omega)
  have HYb : Hid (Y < 4294967296 ^ 460) := by rw [← hY]; have := hTb.out; rw [Nat.one_mul] at this; exact this
  rw [hY]
  have HY : Hid ((10 : Nat) ^ kk = Y) := hY
  obtain ⟨M, hM⟩ : ∃ M, rup N Y = M := ⟨_, rfl⟩
  rw [hM]
  have HM : Hid (rup N Y = M) := hM
  have HB : Hid (∀ b, Li.rndB N Y = b → (b = false → 9223372036854775808 < M) ∧ (b = true → M ≤ 9223372036854775809)) := by
    intro b hb
    constructor
    · rintro rfl
      have := rnd_no (k := kk) hG hk42 (by rw [hY]; exact hb)
      rw [hY, hM] at this
      exact this
    · rintro rfl
      unfold Li.rndB at hb
      have h1 := (of_decide_eq_true hb).2
      rw [← hM]
      unfold rup
      split <;> omega
  replace hNb2 : Hid _ := hNb2
  clear hM hY hk42
  go_enter Tryd.func7, Tryd.ntmps7
  go_wp2_with (first
    | (go_at_call 15; refine (hSp _).mono ?_; rintro e w2 ⟨rfl, k2⟩; have K2 : Hid (Keep w w2) := k2; clear k2)
    | (go_at_call 16; refine (hDg _).mono ?_; rintro e w3 ⟨v', rfl, nv, k3⟩; obtain ⟨a, cp, n, rfl, hn0⟩ := Nv_len nv; have NV : Hid (Li.Nv w3 (.slice a n cp) N) := nv; have z6 := k3.cell (alloc_cell w2 _ 43 6 _ rfl); have z8 := k3.cell (alloc_cell w2 _ 43 8 _ rfl); have z9 := k3.cell (alloc_cell w2 _ 43 9 _ rfl); have z10 := k3.cell (alloc_cell w2 _ 43 10 _ rfl); have K3 : Hid (Keep w w3) := (K2.out.alloc _).trans k3; have hnb : ¬ n = 0 := (fun q => absurd (hn0.1 q) (by omega)); have hnI : ((n : Int) == 0) = false := neI (by omega); clear k3 nv hn0)
    | fail)
  refine wp_region_quiet_lit (by kernel_rfl) (by kernel_rfl) ?_
  iterate 9
    with_reducible refine wpQuiet_step ?_
    intro K hK
    go_simp
    first
      | (with_reducible refine hK _ ?_; clear hK K)
      | (with_reducible refine (if_neg ?_).mpr (hK _ ?_)
         · decide
         clear hK K)
      | (with_reducible refine ⟨.int .i64 PW, fun aw => (hPw _).mono ?_, hK _ ?_⟩
         · rintro e w' ⟨rfl, rfl⟩; exact ⟨rfl, _, rfl⟩
         clear hK K)
      | (apply Exists.intro
         refine ⟨fun _ => ?_, hK _ ?_⟩
         · with_reducible rfl
         clear hK K)
  refine wpQuiet_nil ?_
  rintro _ ⟨nq, rfl⟩
  replace z6 : (w3.drewN nq).cell? _ = _ := z6
  replace z8 : (w3.drewN nq).cell? _ = _ := z8
  replace z9 : (w3.drewN nq).cell? _ = _ := z9
  replace z10 : (w3.drewN nq).cell? _ = _ := z10
  replace K3 : Hid (Keep w (w3.drewN nq)) := K3.out.drewN nq
  replace NV : Hid (Li.Nv (w3.drewN nq) (.slice a n cp) N) := NV.out
  generalize w3.drewN nq = w4 at z6 z8 z9 z10 K3 NV ⊢
  have O4 : Hid (Li.Nv (w4.alloc (.cells #[.int .u32 1] 49)) (.slice (some ⟨w4.heap.size, 0, none⟩) 1 1) 1) := Nv_one w4
  have P4 : Hid (Li.Nv (w4.alloc (.cells #[.int .u32 1] 49)) (.slice a n cp) N) := NV.out.keep ((Keep.refl w4).alloc _)
  have hT := Li.Ten_nv (.slice (some ⟨w4.heap.size, 0, none⟩) 1 1) 1 kk 460 (w4.alloc (.cells #[.int .u32 1] 49)) O4.out hTb.out (by omega) (by omega)
  rw [Nat.one_mul, HY.out] at hT
  obtain ⟨b, hb⟩ : ∃ b, Li.rndB N Y = b := ⟨_, rfl⟩
  have hBb := HB.out b hb
  have hRn := fun v5 w5 (h : Li.Nv w5 (.slice a n cp) N) (g : Li.Nv w5 v5 Y) => Li.Rounded_nv (.slice a n cp) v5 N Y 460 w5 h g HY0.out hNb2.out HYb.out (by omega)
  rw [hb, show Li.rup N Y = M from HM.out] at hRn
  replace hBb : Hid _ := hBb
  clear hb HB
  cases b
  · have hbig := hBb.out.1 rfl
    have hnn := sg_not ng M (of_decide_eq_false (sgE_big ng hbig))
    have hSg := fun wx => rsigned_any ng 0 (by omega) wx
    rw [(sg_zero ng).1, (sg_zero ng).2] at hSg
    simp only [Bool.false_eq_true, if_false] at hRn
    replace hbig : Hid _ := hbig
    replace hnn : Hid _ := hnn
    go_wp2_with (first
      | (go_at_call 18; refine hT.mono ?_; rintro e w5 ⟨v5, rfl, n5, k5⟩; have N5 : Hid (Li.Nv w5 v5 Y) := n5; have K5 : Hid (Keep w4 w5) := ((Keep.refl w4).alloc _).trans k5; have O5 : Hid (Li.Nv w5 (.slice a n cp) N) := P4.out.keep k5; clear n5 k5)
      | (go_at_call 19; refine (hRn _ _ O5.out N5.out).mono ?_; rintro e w6 ⟨rfl, k6⟩; have K6 : Hid (Keep w4 w6) := K5.out.trans k6; have y6 := K6.out.cell z6; clear k6)
      | (go_at_call 20; refine (hSg _).mono ?_; rintro e w7 ⟨⟨X, rfl, hX⟩, e7⟩; subst e7; replace hX : Hid _ := hX))
    all_goals
      go_ret3
      exact ⟨by rw [hnn.out.1, hnn.out.2]; rfl, K3.out.trans K6.out⟩
  · have hle := hBb.out.2 rfl
    have hSg := fun wx => rsigned_any ng M (by omega) wx
    simp only [if_true] at hRn
    obtain ⟨bb, hbb⟩ : ∃ bb, decide (sgE ng M = 0) = bb := ⟨_, rfl⟩
    rw [hbb] at hSg
    replace hbb : Hid _ := hbb
    cases bb
    all_goals
      go_wp2_with (first
        | (go_at_call 18; refine hT.mono ?_; rintro e w5 ⟨v5, rfl, n5, k5⟩; have N5 : Hid (Li.Nv w5 v5 Y) := n5; have K5 : Hid (Keep w4 w5) := ((Keep.refl w4).alloc _).trans k5; have O5 : Hid (Li.Nv w5 (.slice a n cp) N) := P4.out.keep k5; clear n5 k5)
        | (go_at_call 19; refine (hRn _ _ O5.out N5.out).mono ?_; rintro e w6 ⟨rfl, k6⟩; have K6 : Hid (Keep w4 w6) := K5.out.trans k6; have y6 := K6.out.cell z6; clear k6)
        | (go_at_call 20; refine (hSg _).mono ?_; rintro e w7 ⟨⟨X, rfl, hX⟩, e7⟩; subst e7; replace hX : Hid _ := hX))
    · go_ret3
      have hnn := sg_not ng M (of_decide_eq_false hbb.out)
      exact ⟨by rw [hnn.1, hnn.2]; rfl, K3.out.trans K6.out⟩
    · go_ret3
      have hz := of_decide_eq_true hbb.out
      exact ⟨by rw [hz, ← hX.out hz]; rfl, K3.out.trans K6.out⟩
end Go.Proofs.YtgciimjcdhallaaDoor
