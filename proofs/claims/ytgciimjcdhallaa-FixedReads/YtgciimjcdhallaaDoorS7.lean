import Derived.Test.YtgciimjcdhallaaDoorS5
set_option linter.unusedVariables false
set_option linter.unusedSimpArgs false
namespace Go.Proofs.YtgciimjcdhallaaDoor
open Go.RowKit Go.Shelf
set_option maxRecDepth 100000 in
set_option maxHeartbeats 2000000 in
theorem rDec_G3_A_true (s : List UInt8) (w : World) (hs : s.length ≤ 4096) (hng : pNg s = true) (hK : s.length = 2) (c : Nat) (hc : (s.getD 1 0).toNat = c) (hi : c ≠ 105) (hn : c ≠ 110) (x0 x1 x2 : Bool) (x3 x4 : Int) (x5 ng hx : Bool) (wh pt pw : List UInt8) 
    (hSp : ∀ wx, Calls Tryd.prog 15 #[.string ⟨s.toArray⟩] wx fun e w' => e = .returned (.tuple #[.agg (txt x0 x1 x2 x3 x4 x5 ng hx wh pt pw), .int .i64 (-1)]) ∧ Keep wx w')
    (hwd : allD wh) (hpd : allD pt) (hl : wh.length + pt.length ≤ 4096) (PW : Int) (hPw : ∀ wx, Calls Tryd.prog 17 #[.string ⟨pw.toArray⟩] wx fun e w' => e = .returned (.int .i64 PW) ∧ wx = w') (hPb : -100000 ≤ PW ∧ PW ≤ 100000) (N : Nat) (hN : nat (wh ++ pt) = N) (p : Int) (hp : PW - pt.length + 6 = p) (hG : 0 < N) (hpp : p < -((wh.length : Int) + pt.length) - 3) :
    Calls Tryd.prog 7 #[.string ⟨s.toArray⟩] w fun e w' => e = .returned (.tuple #[.int .i64 0, .int .i64 0, .int .i64 0]) ∧ Keep w w' := by
  have hDg := fun wx => Digits_any (wh ++ pt) wx (by rw [List.length_append]; omega) (hwd.app hpd)
  rw [hN] at hDg
  obtain ⟨C, hC⟩ : ∃ C, wh ++ pt = C := ⟨_, rfl⟩
  have hcat : (ByteArray.mk wh.toArray) ++ (ByteArray.mk pt.toArray) = ByteArray.mk C.toArray := by rw [catB, hC]
  rw [hC] at hDg
  have swh : (ByteArray.mk wh.toArray).size = wh.length := sz_mk wh
  have spt : (ByteArray.mk pt.toArray).size = pt.length := sz_mk pt
  obtain ⟨W, hW⟩ : ∃ W, wh.length = W := ⟨_, rfl⟩
  obtain ⟨Q, hQ⟩ : ∃ Q, pt.length = Q := ⟨_, rfl⟩
  rw [hW] at swh hl hpp
  rw [hQ] at spt hl hp hpp
  obtain ⟨hP1, hP2⟩ := hPb
  have x1 : IntKind.i64.wrap (PW - (Q : Int)) = PW - (Q : Int) := by rw [IntWalk.i64_left]; exact IntWalk.wrap64_in _ (by omega)
  have x2 : IntKind.i64.wrap (PW - (Q : Int) + 6) = p := by rw [IntWalk.i64_left, hp]; exact IntWalk.wrap64_in _ (by omega)
  have x3 : IntKind.i64.wrap (-((W : Int) + (Q : Int))) = -((W : Int) + (Q : Int)) := by rw [IntWalk.i64_left]; exact IntWalk.wrap64_in _ (by omega)
  have x4 : IntKind.i64.wrap (-((W : Int) + (Q : Int)) - 3) = -((W : Int) + (Q : Int)) - 3 := by rw [IntWalk.i64_left]; exact IntWalk.wrap64_in _ (by omega)
  replace hp : Hid _ := hp
  clear hwd hpd hN hC hW hQ
  have hq30 : ¬ 30 < p := by omega
  have s1 : (ByteArray.mk s.toArray).size = s.length := sz_mk s
  have hix0 : ∀ wx, (Instr.index 9 (.string ⟨s.toArray⟩) (.int .i64 0)).run Tryd.prog wx = .ok (.int .u8 ((s.getD 0 0).toNat : Nat)) wx := fun wx => run_ix s 0 (by omega) wx
  obtain ⟨c0, hc0⟩ : ∃ c0, (s.getD 0 0).toNat = c0 := ⟨_, rfl⟩
  have hcb : ((c0 : Int) == 45) = true := by
    have h1 := ng_of (s := s) (by omega)
    rw [hng, hc0] at h1
    exact eqI (of_decide_eq_true h1.symm)
  rw [hc0] at hix0
  have hix1 : ∀ wx, (Instr.index 9 (.string ⟨s.toArray⟩) (.int .i64 1)).run Tryd.prog wx = .ok (.int .u8 ((s.getD 1 0).toNat : Nat)) wx := fun wx => run_ix s 1 (by omega) wx
  rw [hc] at hix1
  have hi2 : ((c : Int) == 105) = false := neI (by omega)
  have hn2 : ((c : Int) == 110) = false := neI (by omega)
  rw [hK] at s1 hs
  unfold txt at hSp
  clear hng hK hc0 hc
  go_enter Tryd.func7, Tryd.ntmps7
  go_wp2_with (first
    | (go_at_call 15; refine (hSp _).mono ?_; rintro e w2 ⟨rfl, k2⟩; have K2 : Hid (Keep w w2) := k2; clear k2)
    | (go_at_call 16; refine (hDg _).mono ?_; rintro e w3 ⟨v', rfl, nv, k3⟩; obtain ⟨a, cp, n, rfl, hn0⟩ := Nv_len nv; have NV : Hid (Li.Nv w3 (.slice a n cp) N) := nv; have z6 := k3.cell (alloc_cell w2 _ 43 6 _ rfl); have z8 := k3.cell (alloc_cell w2 _ 43 8 _ rfl); have z9 := k3.cell (alloc_cell w2 _ 43 9 _ rfl); have z10 := k3.cell (alloc_cell w2 _ 43 10 _ rfl); have K3 : Hid (Keep w w3) := (K2.out.alloc _).trans k3; have hnb : ¬ n = 0 := (fun q => absurd (hn0.1 q) (by omega)); have hnI : ((n : Int) == 0) = false := neI (by omega); clear k3 nv hn0)
    | fail)
  refine wp_region_quiet_lit (by kernel_rfl) (by kernel_rfl) ?_
  iterate 9
    with_reducible refine wpQuiet_step ?_
    intro K hK
    go_simp
    first
      | (with_reducible refine hK _ ?_; clear hK K)
      | (with_reducible refine (if_neg ?_).mpr (hK _ ?_)
         · decide
         clear hK K)
      | (with_reducible refine ⟨.int .i64 PW, fun aw => (hPw _).mono ?_, hK _ ?_⟩
         · rintro e w' ⟨rfl, rfl⟩; exact ⟨rfl, _, rfl⟩
         clear hK K)
      | (apply Exists.intro
         refine ⟨fun _ => ?_, hK _ ?_⟩
         · with_reducible rfl
         clear hK K)
  refine wpQuiet_nil ?_
  rintro _ ⟨nq, rfl⟩
  replace z6 : (w3.drewN nq).cell? _ = _ := z6
  replace z8 : (w3.drewN nq).cell? _ = _ := z8
  replace z9 : (w3.drewN nq).cell? _ = _ := z9
  replace z10 : (w3.drewN nq).cell? _ = _ := z10
  replace K3 : Hid (Keep w (w3.drewN nq)) := K3.out.drewN nq
  replace NV : Hid (Li.Nv (w3.drewN nq) (.slice a n cp) N) := NV.out
  generalize w3.drewN nq = w4 at z6 z8 z9 z10 K3 NV ⊢
  go_wp2_with fail
  all_goals
    first
      | (go_ret3
         exact ⟨rfl, by first | exact K3.out | exact K3.out.alloc _⟩)
      | skip
set_option maxRecDepth 100000 in
set_option maxHeartbeats 2000000 in
theorem rDec_G3_A_false (s : List UInt8) (w : World) (hs : s.length ≤ 4096) (hng : pNg s = false) (hK : s.length = 1) (c : Nat) (hc : (s.getD 0 0).toNat = c) (hi : c ≠ 105) (hn : c ≠ 110) (x0 x1 x2 : Bool) (x3 x4 : Int) (x5 ng hx : Bool) (wh pt pw : List UInt8) 
    (hSp : ∀ wx, Calls Tryd.prog 15 #[.string ⟨s.toArray⟩] wx fun e w' => e = .returned (.tuple #[.agg (txt x0 x1 x2 x3 x4 x5 ng hx wh pt pw), .int .i64 (-1)]) ∧ Keep wx w')
    (hwd : allD wh) (hpd : allD pt) (hl : wh.length + pt.length ≤ 4096) (PW : Int) (hPw : ∀ wx, Calls Tryd.prog 17 #[.string ⟨pw.toArray⟩] wx fun e w' => e = .returned (.int .i64 PW) ∧ wx = w') (hPb : -100000 ≤ PW ∧ PW ≤ 100000) (N : Nat) (hN : nat (wh ++ pt) = N) (p : Int) (hp : PW - pt.length + 6 = p) (hG : 0 < N) (hpp : p < -((wh.length : Int) + pt.length) - 3) :
    Calls Tryd.prog 7 #[.string ⟨s.toArray⟩] w fun e w' => e = .returned (.tuple #[.int .i64 0, .int .i64 0, .int .i64 0]) ∧ Keep w w' := by
  have hDg := fun wx => Digits_any (wh ++ pt) wx (by rw [List.length_append]; omega) (hwd.app hpd)
  rw [hN] at hDg
  obtain ⟨C, hC⟩ : ∃ C, wh ++ pt = C := ⟨_, rfl⟩
  have hcat : (ByteArray.mk wh.toArray) ++ (ByteArray.mk pt.toArray) = ByteArray.mk C.toArray := by rw [catB, hC]
  rw [hC] at hDg
  have swh : (ByteArray.mk wh.toArray).size = wh.length := sz_mk wh
  have spt : (ByteArray.mk pt.toArray).size = pt.length := sz_mk pt
  obtain ⟨W, hW⟩ : ∃ W, wh.length = W := ⟨_, rfl⟩
  obtain ⟨Q, hQ⟩ : ∃ Q, pt.length = Q := ⟨_, rfl⟩
  rw [hW] at swh hl hpp
  rw [hQ] at spt hl hp hpp
  obtain ⟨hP1, hP2⟩ := hPb
  have x1 : IntKind.i64.wrap (PW - (Q : Int)) = PW - (Q : Int) := by rw [IntWalk.i64_left]; exact IntWalk.wrap64_in _ (by omega)
  have x2 : IntKind.i64.wrap (PW - (Q : Int) + 6) = p := by rw [IntWalk.i64_left, hp]; exact IntWalk.wrap64_in _ (by omega)
  have x3 : IntKind.i64.wrap (-((W : Int) + (Q : Int))) = -((W : Int) + (Q : Int)) := by rw [IntWalk.i64_left]; exact IntWalk.wrap64_in _ (by omega)
  have x4 : IntKind.i64.wrap (-((W : Int) + (Q : Int)) - 3) = -((W : Int) + (Q : Int)) - 3 := by rw [IntWalk.i64_left]; exact IntWalk.wrap64_in _ (by omega)
  replace hp : Hid _ := hp
  clear hwd hpd hN hC hW hQ
  have hq30 : ¬ 30 < p := by omega
  have s1 : (ByteArray.mk s.toArray).size = s.length := sz_mk s
  have hix0 : ∀ wx, (Instr.index 9 (.string ⟨s.toArray⟩) (.int .i64 0)).run Tryd.prog wx = .ok (.int .u8 ((s.getD 0 0).toNat : Nat)) wx := fun wx => run_ix s 0 (by omega) wx
  obtain ⟨c0, hc0⟩ : ∃ c0, (s.getD 0 0).toNat = c0 := ⟨_, rfl⟩
  have hcb : ((c0 : Int) == 45) = false := by
    have h1 := ng_of (s := s) (by omega)
    rw [hng, hc0] at h1
    exact neI (by have := of_decide_eq_false h1.symm; omega)
  rw [hc0] at hix0
  obtain rfl : c = c0 := by rw [← hc, hc0]
  have hi2 : ((c : Int) == 105) = false := neI (by omega)
  have hn2 : ((c : Int) == 110) = false := neI (by omega)
  rw [hK] at s1 hs
  unfold txt at hSp
  clear hng hK hc0 hc
  go_enter Tryd.func7, Tryd.ntmps7
  go_wp2_with (first
    | (go_at_call 15; refine (hSp _).mono ?_; rintro e w2 ⟨rfl, k2⟩; have K2 : Hid (Keep w w2) := k2; clear k2)
    | (go_at_call 16; refine (hDg _).mono ?_; rintro e w3 ⟨v', rfl, nv, k3⟩; obtain ⟨a, cp, n, rfl, hn0⟩ := Nv_len nv; have NV : Hid (Li.Nv w3 (.slice a n cp) N) := nv; have z6 := k3.cell (alloc_cell w2 _ 43 6 _ rfl); have z8 := k3.cell (alloc_cell w2 _ 43 8 _ rfl); have z9 := k3.cell (alloc_cell w2 _ 43 9 _ rfl); have z10 := k3.cell (alloc_cell w2 _ 43 10 _ rfl); have K3 : Hid (Keep w w3) := (K2.out.alloc _).trans k3; have hnb : ¬ n = 0 := (fun q => absurd (hn0.1 q) (by omega)); have hnI : ((n : Int) == 0) = false := neI (by omega); clear k3 nv hn0)
    | fail)
  refine wp_region_quiet_lit (by kernel_rfl) (by kernel_rfl) ?_
  iterate 9
    with_reducible refine wpQuiet_step ?_
    intro K hK
    go_simp
    first
      | (with_reducible refine hK _ ?_; clear hK K)
      | (with_reducible refine (if_neg ?_).mpr (hK _ ?_)
         · decide
         clear hK K)
      | (with_reducible refine ⟨.int .i64 PW, fun aw => (hPw _).mono ?_, hK _ ?_⟩
         · rintro e w' ⟨rfl, rfl⟩; exact ⟨rfl, _, rfl⟩
         clear hK K)
      | (apply Exists.intro
         refine ⟨fun _ => ?_, hK _ ?_⟩
         · with_reducible rfl
         clear hK K)
  refine wpQuiet_nil ?_
  rintro _ ⟨nq, rfl⟩
  replace z6 : (w3.drewN nq).cell? _ = _ := z6
  replace z8 : (w3.drewN nq).cell? _ = _ := z8
  replace z9 : (w3.drewN nq).cell? _ = _ := z9
  replace z10 : (w3.drewN nq).cell? _ = _ := z10
  replace K3 : Hid (Keep w (w3.drewN nq)) := K3.out.drewN nq
  replace NV : Hid (Li.Nv (w3.drewN nq) (.slice a n cp) N) := NV.out
  generalize w3.drewN nq = w4 at z6 z8 z9 z10 K3 NV ⊢
  go_wp2_with fail
  all_goals
    first
      | (go_ret3
         exact ⟨rfl, by first | exact K3.out | exact K3.out.alloc _⟩)
      | skip
set_option maxRecDepth 100000 in
set_option maxHeartbeats 2000000 in
theorem rDec_G3_B_true (s : List UInt8) (w : World) (hs : s.length ≤ 4096) (hng : pNg s = true) (hK : 2 < s.length) (c : Nat) (hc : (s.getD 1 0).toNat = c) (hi : c ≠ 105) (hn : c ≠ 110) (hz : c ≠ 48) (x0 x1 x2 : Bool) (x3 x4 : Int) (x5 ng hx : Bool) (wh pt pw : List UInt8) 
    (hSp : ∀ wx, Calls Tryd.prog 15 #[.string ⟨s.toArray⟩] wx fun e w' => e = .returned (.tuple #[.agg (txt x0 x1 x2 x3 x4 x5 ng hx wh pt pw), .int .i64 (-1)]) ∧ Keep wx w')
    (hwd : allD wh) (hpd : allD pt) (hl : wh.length + pt.length ≤ 4096) (PW : Int) (hPw : ∀ wx, Calls Tryd.prog 17 #[.string ⟨pw.toArray⟩] wx fun e w' => e = .returned (.int .i64 PW) ∧ wx = w') (hPb : -100000 ≤ PW ∧ PW ≤ 100000) (N : Nat) (hN : nat (wh ++ pt) = N) (p : Int) (hp : PW - pt.length + 6 = p) (hG : 0 < N) (hpp : p < -((wh.length : Int) + pt.length) - 3) :
    Calls Tryd.prog 7 #[.string ⟨s.toArray⟩] w fun e w' => e = .returned (.tuple #[.int .i64 0, .int .i64 0, .int .i64 0]) ∧ Keep w w' := by
  have hDg := fun wx => Digits_any (wh ++ pt) wx (by rw [List.length_append]; omega) (hwd.app hpd)
  rw [hN] at hDg
  obtain ⟨C, hC⟩ : ∃ C, wh ++ pt = C := ⟨_, rfl⟩
  have hcat : (ByteArray.mk wh.toArray) ++ (ByteArray.mk pt.toArray) = ByteArray.mk C.toArray := by rw [catB, hC]
  rw [hC] at hDg
  have swh : (ByteArray.mk wh.toArray).size = wh.length := sz_mk wh
  have spt : (ByteArray.mk pt.toArray).size = pt.length := sz_mk pt
  obtain ⟨W, hW⟩ : ∃ W, wh.length = W := ⟨_, rfl⟩
  obtain ⟨Q, hQ⟩ : ∃ Q, pt.length = Q := ⟨_, rfl⟩
  rw [hW] at swh hl hpp
  rw [hQ] at spt hl hp hpp
  obtain ⟨hP1, hP2⟩ := hPb
  have x1 : IntKind.i64.wrap (PW - (Q : Int)) = PW - (Q : Int) := by rw [IntWalk.i64_left]; exact IntWalk.wrap64_in _ (by omega)
  have x2 : IntKind.i64.wrap (PW - (Q : Int) + 6) = p := by rw [IntWalk.i64_left, hp]; exact IntWalk.wrap64_in _ (by omega)
  have x3 : IntKind.i64.wrap (-((W : Int) + (Q : Int))) = -((W : Int) + (Q : Int)) := by rw [IntWalk.i64_left]; exact IntWalk.wrap64_in _ (by omega)
  have x4 : IntKind.i64.wrap (-((W : Int) + (Q : Int)) - 3) = -((W : Int) + (Q : Int)) - 3 := by rw [IntWalk.i64_left]; exact IntWalk.wrap64_in _ (by omega)
  replace hp : Hid _ := hp
  clear hwd hpd hN hC hW hQ
  have hq30 : ¬ 30 < p := by omega
  have s1 : (ByteArray.mk s.toArray).size = s.length := sz_mk s
  have hix0 : ∀ wx, (Instr.index 9 (.string ⟨s.toArray⟩) (.int .i64 0)).run Tryd.prog wx = .ok (.int .u8 ((s.getD 0 0).toNat : Nat)) wx := fun wx => run_ix s 0 (by omega) wx
  obtain ⟨c0, hc0⟩ : ∃ c0, (s.getD 0 0).toNat = c0 := ⟨_, rfl⟩
  have hcb : ((c0 : Int) == 45) = true := by
    have h1 := ng_of (s := s) (by omega)
    rw [hng, hc0] at h1
    exact eqI (of_decide_eq_true h1.symm)
  rw [hc0] at hix0
  have hix1 : ∀ wx, (Instr.index 9 (.string ⟨s.toArray⟩) (.int .i64 1)).run Tryd.prog wx = .ok (.int .u8 ((s.getD 1 0).toNat : Nat)) wx := fun wx => run_ix s 1 (by omega) wx
  rw [hc] at hix1
  have hi2 : ((c : Int) == 105) = false := neI (by omega)
  have hn2 : ((c : Int) == 110) = false := neI (by omega)
  have hz2 : ((c : Int) == 48) = false := neI (by omega)
  obtain ⟨L, hL⟩ : ∃ L, s.length = L := ⟨_, rfl⟩
  rw [hL] at s1 hs hK
  have hL0 : (0 : Int) < (L : Int) := by omega
  have hL1 : (1 : Int) < (L : Int) := by omega
  have hL2 : (2 : Int) < (L : Int) := by omega
  unfold txt at hSp
  clear hng hL hc0 hc
  go_enter Tryd.func7, Tryd.ntmps7
  go_wp2_with (first
    | (go_at_call 15; refine (hSp _).mono ?_; rintro e w2 ⟨rfl, k2⟩; have K2 : Hid (Keep w w2) := k2; clear k2)
    | (go_at_call 16; refine (hDg _).mono ?_; rintro e w3 ⟨v', rfl, nv, k3⟩; obtain ⟨a, cp, n, rfl, hn0⟩ := Nv_len nv; have NV : Hid (Li.Nv w3 (.slice a n cp) N) := nv; have z6 := k3.cell (alloc_cell w2 _ 43 6 _ rfl); have z8 := k3.cell (alloc_cell w2 _ 43 8 _ rfl); have z9 := k3.cell (alloc_cell w2 _ 43 9 _ rfl); have z10 := k3.cell (alloc_cell w2 _ 43 10 _ rfl); have K3 : Hid (Keep w w3) := (K2.out.alloc _).trans k3; have hnb : ¬ n = 0 := (fun q => absurd (hn0.1 q) (by omega)); have hnI : ((n : Int) == 0) = false := neI (by omega); clear k3 nv hn0)
    | fail)
  refine wp_region_quiet_lit (by kernel_rfl) (by kernel_rfl) ?_
  iterate 9
    with_reducible refine wpQuiet_step ?_
    intro K hK
    go_simp
    first
      | (with_reducible refine hK _ ?_; clear hK K)
      | (with_reducible refine (if_neg ?_).mpr (hK _ ?_)
         · decide
         clear hK K)
      | (with_reducible refine ⟨.int .i64 PW, fun aw => (hPw _).mono ?_, hK _ ?_⟩
         · rintro e w' ⟨rfl, rfl⟩; exact ⟨rfl, _, rfl⟩
         clear hK K)
      | (apply Exists.intro
         refine ⟨fun _ => ?_, hK _ ?_⟩
         · with_reducible rfl
         clear hK K)
  refine wpQuiet_nil ?_
  rintro _ ⟨nq, rfl⟩
  replace z6 : (w3.drewN nq).cell? _ = _ := z6
  replace z8 : (w3.drewN nq).cell? _ = _ := z8
  replace z9 : (w3.drewN nq).cell? _ = _ := z9
  replace z10 : (w3.drewN nq).cell? _ = _ := z10
  replace K3 : Hid (Keep w (w3.drewN nq)) := K3.out.drewN nq
  replace NV : Hid (Li.Nv (w3.drewN nq) (.slice a n cp) N) := NV.out
  generalize w3.drewN nq = w4 at z6 z8 z9 z10 K3 NV ⊢
  go_wp2_with fail
  all_goals
    first
      | (go_ret3
         exact ⟨rfl, by first | exact K3.out | exact K3.out.alloc _⟩)
      | skip
set_option maxRecDepth 100000 in
set_option maxHeartbeats 2000000 in
theorem rDec_G3_B_false (s : List UInt8) (w : World) (hs : s.length ≤ 4096) (hng : pNg s = false) (hK : 1 < s.length) (c : Nat) (hc : (s.getD 0 0).toNat = c) (hi : c ≠ 105) (hn : c ≠ 110) (hz : c ≠ 48) (x0 x1 x2 : Bool) (x3 x4 : Int) (x5 ng hx : Bool) (wh pt pw : List UInt8) 
    (hSp : ∀ wx, Calls Tryd.prog 15 #[.string ⟨s.toArray⟩] wx fun e w' => e = .returned (.tuple #[.agg (txt x0 x1 x2 x3 x4 x5 ng hx wh pt pw), .int .i64 (-1)]) ∧ Keep wx w')
    (hwd : allD wh) (hpd : allD pt) (hl : wh.length + pt.length ≤ 4096) (PW : Int) (hPw : ∀ wx, Calls Tryd.prog 17 #[.string ⟨pw.toArray⟩] wx fun e w' => e = .returned (.int .i64 PW) ∧ wx = w') (hPb : -100000 ≤ PW ∧ PW ≤ 100000) (N : Nat) (hN : nat (wh ++ pt) = N) (p : Int) (hp : PW - pt.length + 6 = p) (hG : 0 < N) (hpp : p < -((wh.length : Int) + pt.length) - 3) :
    Calls Tryd.prog 7 #[.string ⟨s.toArray⟩] w fun e w' => e = .returned (.tuple #[.int .i64 0, .int .i64 0, .int .i64 0]) ∧ Keep w w' := by
  have hDg := fun wx => Digits_any (wh ++ pt) wx (by rw [List.length_append]; omega) (hwd.app hpd)
  rw [hN] at hDg
  obtain ⟨C, hC⟩ : ∃ C, wh ++ pt = C := ⟨_, rfl⟩
  have hcat : (ByteArray.mk wh.toArray) ++ (ByteArray.mk pt.toArray) = ByteArray.mk C.toArray := by rw [catB, hC]
  rw [hC] at hDg
  have swh : (ByteArray.mk wh.toArray).size = wh.length := sz_mk wh
  have spt : (ByteArray.mk pt.toArray).size = pt.length := sz_mk pt
  obtain ⟨W, hW⟩ : ∃ W, wh.length = W := ⟨_, rfl⟩
  obtain ⟨Q, hQ⟩ : ∃ Q, pt.length = Q := ⟨_, rfl⟩
  rw [hW] at swh hl hpp
  rw [hQ] at spt hl hp hpp
  obtain ⟨hP1, hP2⟩ := hPb
  have x1 : IntKind.i64.wrap (PW - (Q : Int)) = PW - (Q : Int) := by rw [IntWalk.i64_left]; exact IntWalk.wrap64_in _ (by omega)
  have x2 : IntKind.i64.wrap (PW - (Q : Int) + 6) = p := by rw [IntWalk.i64_left, hp]; exact IntWalk.wrap64_in _ (by omega)
  have x3 : IntKind.i64.wrap (-((W : Int) + (Q : Int))) = -((W : Int) + (Q : Int)) := by rw [IntWalk.i64_left]; exact IntWalk.wrap64_in _ (by omega)
  have x4 : IntKind.i64.wrap (-((W : Int) + (Q : Int)) - 3) = -((W : Int) + (Q : Int)) - 3 := by rw [IntWalk.i64_left]; exact IntWalk.wrap64_in _ (by omega)
  replace hp : Hid _ := hp
  clear hwd hpd hN hC hW hQ
  have hq30 : ¬ 30 < p := by omega
  have s1 : (ByteArray.mk s.toArray).size = s.length := sz_mk s
  have hix0 : ∀ wx, (Instr.index 9 (.string ⟨s.toArray⟩) (.int .i64 0)).run Tryd.prog wx = .ok (.int .u8 ((s.getD 0 0).toNat : Nat)) wx := fun wx => run_ix s 0 (by omega) wx
  obtain ⟨c0, hc0⟩ : ∃ c0, (s.getD 0 0).toNat = c0 := ⟨_, rfl⟩
  have hcb : ((c0 : Int) == 45) = false := by
    have h1 := ng_of (s := s) (by omega)
    rw [hng, hc0] at h1
    exact neI (by have := of_decide_eq_false h1.symm; omega)
  rw [hc0] at hix0
  obtain rfl : c = c0 := by rw [← hc, hc0]
  have hi2 : ((c : Int) == 105) = false := neI (by omega)
  have hn2 : ((c : Int) == 110) = false := neI (by omega)
  have hz2 : ((c : Int) == 48) = false := neI (by omega)
  obtain ⟨L, hL⟩ : ∃ L, s.length = L := ⟨_, rfl⟩
  rw [hL] at s1 hs hK
  have hL0 : (0 : Int) < (L : Int) := by omega
  have hL1 : (0 : Int) < (L : Int) := by omega
  have hL2 : (1 : Int) < (L : Int) := by omega
  unfold txt at hSp
  clear hng hL hc0 hc
  go_enter Tryd.func7, Tryd.ntmps7
  go_wp2_with (first
    | (go_at_call 15; refine (hSp _).mono ?_; rintro e w2 ⟨rfl, k2⟩; have K2 : Hid (Keep w w2) := k2; clear k2)
    | (go_at_call 16; refine (hDg _).mono ?_; rintro e w3 ⟨v', rfl, nv, k3⟩; obtain ⟨a, cp, n, rfl, hn0⟩ := Nv_len nv; have NV : Hid (Li.Nv w3 (.slice a n cp) N) := nv; have z6 := k3.cell (alloc_cell w2 _ 43 6 _ rfl); have z8 := k3.cell (alloc_cell w2 _ 43 8 _ rfl); have z9 := k3.cell (alloc_cell w2 _ 43 9 _ rfl); have z10 := k3.cell (alloc_cell w2 _ 43 10 _ rfl); have K3 : Hid (Keep w w3) := (K2.out.alloc _).trans k3; have hnb : ¬ n = 0 := (fun q => absurd (hn0.1 q) (by omega)); have hnI : ((n : Int) == 0) = false := neI (by omega); clear k3 nv hn0)
    | fail)
  refine wp_region_quiet_lit (by kernel_rfl) (by kernel_rfl) ?_
  iterate 9
    with_reducible refine wpQuiet_step ?_
    intro K hK
    go_simp
    first
      | (with_reducible refine hK _ ?_; clear hK K)
      | (with_reducible refine (if_neg ?_).mpr (hK _ ?_)
         · decide
         clear hK K)
      | (with_reducible refine ⟨.int .i64 PW, fun aw => (hPw _).mono ?_, hK _ ?_⟩
         · rintro e w' ⟨rfl, rfl⟩; exact ⟨rfl, _, rfl⟩
         clear hK K)
      | (apply Exists.intro
         refine ⟨fun _ => ?_, hK _ ?_⟩
         · with_reducible rfl
         clear hK K)
  refine wpQuiet_nil ?_
  rintro _ ⟨nq, rfl⟩
  replace z6 : (w3.drewN nq).cell? _ = _ := z6
  replace z8 : (w3.drewN nq).cell? _ = _ := z8
  replace z9 : (w3.drewN nq).cell? _ = _ := z9
  replace z10 : (w3.drewN nq).cell? _ = _ := z10
  replace K3 : Hid (Keep w (w3.drewN nq)) := K3.out.drewN nq
  replace NV : Hid (Li.Nv (w3.drewN nq) (.slice a n cp) N) := NV.out
  generalize w3.drewN nq = w4 at z6 z8 z9 z10 K3 NV ⊢
  go_wp2_with fail
  all_goals
    first
      | (go_ret3
         exact ⟨rfl, by first | exact K3.out | exact K3.out.alloc _⟩)
      | skip
set_option maxRecDepth 100000 in
set_option maxHeartbeats 2000000 in
theorem rDec_G3_C_true (s : List UInt8) (w : World) (hs : s.length ≤ 4096) (hng : pNg s = true) (hK : 2 < s.length) (hc : (s.getD 1 0).toNat = 48) (d : Nat) (hd : (s.getD 2 0).toNat = d) (hz : d ≠ 120) (x0 x1 x2 : Bool) (x3 x4 : Int) (x5 ng hx : Bool) (wh pt pw : List UInt8) 
    (hSp : ∀ wx, Calls Tryd.prog 15 #[.string ⟨s.toArray⟩] wx fun e w' => e = .returned (.tuple #[.agg (txt x0 x1 x2 x3 x4 x5 ng hx wh pt pw), .int .i64 (-1)]) ∧ Keep wx w')
    (hwd : allD wh) (hpd : allD pt) (hl : wh.length + pt.length ≤ 4096) (PW : Int) (hPw : ∀ wx, Calls Tryd.prog 17 #[.string ⟨pw.toArray⟩] wx fun e w' => e = .returned (.int .i64 PW) ∧ wx = w') (hPb : -100000 ≤ PW ∧ PW ≤ 100000) (N : Nat) (hN : nat (wh ++ pt) = N) (p : Int) (hp : PW - pt.length + 6 = p) (hG : 0 < N) (hpp : p < -((wh.length : Int) + pt.length) - 3) :
    Calls Tryd.prog 7 #[.string ⟨s.toArray⟩] w fun e w' => e = .returned (.tuple #[.int .i64 0, .int .i64 0, .int .i64 0]) ∧ Keep w w' := by
  have hDg := fun wx => Digits_any (wh ++ pt) wx (by rw [List.length_append]; omega) (hwd.app hpd)
  rw [hN] at hDg
  obtain ⟨C, hC⟩ : ∃ C, wh ++ pt = C := ⟨_, rfl⟩
  have hcat : (ByteArray.mk wh.toArray) ++ (ByteArray.mk pt.toArray) = ByteArray.mk C.toArray := by rw [catB, hC]
  rw [hC] at hDg
  have swh : (ByteArray.mk wh.toArray).size = wh.length := sz_mk wh
  have spt : (ByteArray.mk pt.toArray).size = pt.length := sz_mk pt
  obtain ⟨W, hW⟩ : ∃ W, wh.length = W := ⟨_, rfl⟩
  obtain ⟨Q, hQ⟩ : ∃ Q, pt.length = Q := ⟨_, rfl⟩
  rw [hW] at swh hl hpp
  rw [hQ] at spt hl hp hpp
  obtain ⟨hP1, hP2⟩ := hPb
  have x1 : IntKind.i64.wrap (PW - (Q : Int)) = PW - (Q : Int) := by rw [IntWalk.i64_left]; exact IntWalk.wrap64_in _ (by omega)
  have x2 : IntKind.i64.wrap (PW - (Q : Int) + 6) = p := by rw [IntWalk.i64_left, hp]; exact IntWalk.wrap64_in _ (by omega)
  have x3 : IntKind.i64.wrap (-((W : Int) + (Q : Int))) = -((W : Int) + (Q : Int)) := by rw [IntWalk.i64_left]; exact IntWalk.wrap64_in _ (by omega)
  have x4 : IntKind.i64.wrap (-((W : Int) + (Q : Int)) - 3) = -((W : Int) + (Q : Int)) - 3 := by rw [IntWalk.i64_left]; exact IntWalk.wrap64_in _ (by omega)
  replace hp : Hid _ := hp
  clear hwd hpd hN hC hW hQ
  have hq30 : ¬ 30 < p := by omega
  have s1 : (ByteArray.mk s.toArray).size = s.length := sz_mk s
  have hix0 : ∀ wx, (Instr.index 9 (.string ⟨s.toArray⟩) (.int .i64 0)).run Tryd.prog wx = .ok (.int .u8 ((s.getD 0 0).toNat : Nat)) wx := fun wx => run_ix s 0 (by omega) wx
  obtain ⟨c0, hc0⟩ : ∃ c0, (s.getD 0 0).toNat = c0 := ⟨_, rfl⟩
  have hcb : ((c0 : Int) == 45) = true := by
    have h1 := ng_of (s := s) (by omega)
    rw [hng, hc0] at h1
    exact eqI (of_decide_eq_true h1.symm)
  rw [hc0] at hix0
  have hix1 : ∀ wx, (Instr.index 9 (.string ⟨s.toArray⟩) (.int .i64 1)).run Tryd.prog wx = .ok (.int .u8 ((s.getD 1 0).toNat : Nat)) wx := fun wx => run_ix s 1 (by omega) wx
  rw [hc] at hix1
  have hix2 : ∀ wx, (Instr.index 9 (.string ⟨s.toArray⟩) (.int .i64 2)).run Tryd.prog wx = .ok (.int .u8 ((s.getD 2 0).toNat : Nat)) wx := fun wx => run_ix s 2 (by omega) wx
  rw [hd] at hix2
  have hz2 : ((d : Int) == 120) = false := neI (by omega)
  obtain ⟨L, hL⟩ : ∃ L, s.length = L := ⟨_, rfl⟩
  rw [hL] at s1 hs hK
  have hL0 : (0 : Int) < (L : Int) := by omega
  have hL1 : (1 : Int) < (L : Int) := by omega
  have hL2 : (2 : Int) < (L : Int) := by omega
  unfold txt at hSp
  clear hng hL hc0 hc hd
  go_enter Tryd.func7, Tryd.ntmps7
  go_wp2_with (first
    | (go_at_call 15; refine (hSp _).mono ?_; rintro e w2 ⟨rfl, k2⟩; have K2 : Hid (Keep w w2) := k2; clear k2)
    | (go_at_call 16; refine (hDg _).mono ?_; rintro e w3 ⟨v', rfl, nv, k3⟩; obtain ⟨a, cp, n, rfl, hn0⟩ := Nv_len nv; have NV : Hid (Li.Nv w3 (.slice a n cp) N) := nv; have z6 := k3.cell (alloc_cell w2 _ 43 6 _ rfl); have z8 := k3.cell (alloc_cell w2 _ 43 8 _ rfl); have z9 := k3.cell (alloc_cell w2 _ 43 9 _ rfl); have z10 := k3.cell (alloc_cell w2 _ 43 10 _ rfl); have K3 : Hid (Keep w w3) := (K2.out.alloc _).trans k3; have hnb : ¬ n = 0 := (fun q => absurd (hn0.1 q) (by omega)); have hnI : ((n : Int) == 0) = false := neI (by omega); clear k3 nv hn0)
    | fail)
  refine wp_region_quiet_lit (by kernel_rfl) (by kernel_rfl) ?_
  iterate 9
    with_reducible refine wpQuiet_step ?_
    intro K hK
    go_simp
    first
      | (with_reducible refine hK _ ?_; clear hK K)
      | (with_reducible refine (if_neg ?_).mpr (hK _ ?_)
         · decide
         clear hK K)
      | (with_reducible refine ⟨.int .i64 PW, fun aw => (hPw _).mono ?_, hK _ ?_⟩
         · rintro e w' ⟨rfl, rfl⟩; exact ⟨rfl, _, rfl⟩
         clear hK K)
      | (apply Exists.intro
         refine ⟨fun _ => ?_, hK _ ?_⟩
         · with_reducible rfl
         clear hK K)
  refine wpQuiet_nil ?_
  rintro _ ⟨nq, rfl⟩
  replace z6 : (w3.drewN nq).cell? _ = _ := z6
  replace z8 : (w3.drewN nq).cell? _ = _ := z8
  replace z9 : (w3.drewN nq).cell? _ = _ := z9
  replace z10 : (w3.drewN nq).cell? _ = _ := z10
  replace K3 : Hid (Keep w (w3.drewN nq)) := K3.out.drewN nq
  replace NV : Hid (Li.Nv (w3.drewN nq) (.slice a n cp) N) := NV.out
  generalize w3.drewN nq = w4 at z6 z8 z9 z10 K3 NV ⊢
  go_wp2_with fail
  all_goals
    first
      | (go_ret3
         exact ⟨rfl, by first | exact K3.out | exact K3.out.alloc _⟩)
      | skip
set_option maxRecDepth 100000 in
set_option maxHeartbeats 2000000 in
theorem rDec_G3_C_false (s : List UInt8) (w : World) (hs : s.length ≤ 4096) (hng : pNg s = false) (hK : 1 < s.length) (hc : (s.getD 0 0).toNat = 48) (d : Nat) (hd : (s.getD 1 0).toNat = d) (hz : d ≠ 120) (x0 x1 x2 : Bool) (x3 x4 : Int) (x5 ng hx : Bool) (wh pt pw : List UInt8) 
    (hSp : ∀ wx, Calls Tryd.prog 15 #[.string ⟨s.toArray⟩] wx fun e w' => e = .returned (.tuple #[.agg (txt x0 x1 x2 x3 x4 x5 ng hx wh pt pw), .int .i64 (-1)]) ∧ Keep wx w')
    (hwd : allD wh) (hpd : allD pt) (hl : wh.length + pt.length ≤ 4096) (PW : Int) (hPw : ∀ wx, Calls Tryd.prog 17 #[.string ⟨pw.toArray⟩] wx fun e w' => e = .returned (.int .i64 PW) ∧ wx = w') (hPb : -100000 ≤ PW ∧ PW ≤ 100000) (N : Nat) (hN : nat (wh ++ pt) = N) (p : Int) (hp : PW - pt.length + 6 = p) (hG : 0 < N) (hpp : p < -((wh.length : Int) + pt.length) - 3) :
    Calls Tryd.prog 7 #[.string ⟨s.toArray⟩] w fun e w' => e = .returned (.tuple #[.int .i64 0, .int .i64 0, .int .i64 0]) ∧ Keep w w' := by
  have hDg := fun wx => Digits_any (wh ++ pt) wx (by rw [List.length_append]; omega) (hwd.app hpd)
  rw [hN] at hDg
  obtain ⟨C, hC⟩ : ∃ C, wh ++ pt = C := ⟨_, rfl⟩
  have hcat : (ByteArray.mk wh.toArray) ++ (ByteArray.mk pt.toArray) = ByteArray.mk C.toArray := by rw [catB, hC]
  rw [hC] at hDg
  have swh : (ByteArray.mk wh.toArray).size = wh.length := sz_mk wh
  have spt : (ByteArray.mk pt.toArray).size = pt.length := sz_mk pt
  obtain ⟨W, hW⟩ : ∃ W, wh.length = W := ⟨_, rfl⟩
  obtain ⟨Q, hQ⟩ : ∃ Q, pt.length = Q := ⟨_, rfl⟩
  rw [hW] at swh hl hpp
  rw [hQ] at spt hl hp hpp
  obtain ⟨hP1, hP2⟩ := hPb
  have x1 : IntKind.i64.wrap (PW - (Q : Int)) = PW - (Q : Int) := by rw [IntWalk.i64_left]; exact IntWalk.wrap64_in _ (by omega)
  have x2 : IntKind.i64.wrap (PW - (Q : Int) + 6) = p := by rw [IntWalk.i64_left, hp]; exact IntWalk.wrap64_in _ (by omega)
  have x3 : IntKind.i64.wrap (-((W : Int) + (Q : Int))) = -((W : Int) + (Q : Int)) := by rw [IntWalk.i64_left]; exact IntWalk.wrap64_in _ (by omega)
  have x4 : IntKind.i64.wrap (-((W : Int) + (Q : Int)) - 3) = -((W : Int) + (Q : Int)) - 3 := by rw [IntWalk.i64_left]; exact IntWalk.wrap64_in _ (by omega)
  replace hp : Hid _ := hp
  clear hwd hpd hN hC hW hQ
  have hq30 : ¬ 30 < p := by omega
  have s1 : (ByteArray.mk s.toArray).size = s.length := sz_mk s
  have hix0 : ∀ wx, (Instr.index 9 (.string ⟨s.toArray⟩) (.int .i64 0)).run Tryd.prog wx = .ok (.int .u8 ((s.getD 0 0).toNat : Nat)) wx := fun wx => run_ix s 0 (by omega) wx
  obtain ⟨c0, hc0⟩ : ∃ c0, (s.getD 0 0).toNat = c0 := ⟨_, rfl⟩
  have hcb : ((c0 : Int) == 45) = false := by
    have h1 := ng_of (s := s) (by omega)
    rw [hng, hc0] at h1
    exact neI (by have := of_decide_eq_false h1.symm; omega)
  rw [hc0] at hix0
  obtain rfl : c0 = 48 := by rw [← hc0, hc]
  have hix2 : ∀ wx, (Instr.index 9 (.string ⟨s.toArray⟩) (.int .i64 1)).run Tryd.prog wx = .ok (.int .u8 ((s.getD 1 0).toNat : Nat)) wx := fun wx => run_ix s 1 (by omega) wx
  rw [hd] at hix2
  have hz2 : ((d : Int) == 120) = false := neI (by omega)
  obtain ⟨L, hL⟩ : ∃ L, s.length = L := ⟨_, rfl⟩
  rw [hL] at s1 hs hK
  have hL0 : (0 : Int) < (L : Int) := by omega
  have hL1 : (0 : Int) < (L : Int) := by omega
  have hL2 : (1 : Int) < (L : Int) := by omega
  unfold txt at hSp
  clear hng hL hc0 hc hd
  go_enter Tryd.func7, Tryd.ntmps7
  go_wp2_with (first
    | (go_at_call 15; refine (hSp _).mono ?_; rintro e w2 ⟨rfl, k2⟩; have K2 : Hid (Keep w w2) := k2; clear k2)
    | (go_at_call 16; refine (hDg _).mono ?_; rintro e w3 ⟨v', rfl, nv, k3⟩; obtain ⟨a, cp, n, rfl, hn0⟩ := Nv_len nv; have NV : Hid (Li.Nv w3 (.slice a n cp) N) := nv; have z6 := k3.cell (alloc_cell w2 _ 43 6 _ rfl); have z8 := k3.cell (alloc_cell w2 _ 43 8 _ rfl); have z9 := k3.cell (alloc_cell w2 _ 43 9 _ rfl); have z10 := k3.cell (alloc_cell w2 _ 43 10 _ rfl); have K3 : Hid (Keep w w3) := (K2.out.alloc _).trans k3; have hnb : ¬ n = 0 := (fun q => absurd (hn0.1 q) (by omega)); have hnI : ((n : Int) == 0) = false := neI (by omega); clear k3 nv hn0)
    | fail)
  refine wp_region_quiet_lit (by kernel_rfl) (by kernel_rfl) ?_
  iterate 9
    with_reducible refine wpQuiet_step ?_
    intro K hK
    go_simp
    first
      | (with_reducible refine hK _ ?_; clear hK K)
      | (with_reducible refine (if_neg ?_).mpr (hK _ ?_)
         · decide
         clear hK K)
      | (with_reducible refine ⟨.int .i64 PW, fun aw => (hPw _).mono ?_, hK _ ?_⟩
         · rintro e w' ⟨rfl, rfl⟩; exact ⟨rfl, _, rfl⟩
         clear hK K)
      | (apply Exists.intro
         refine ⟨fun _ => ?_, hK _ ?_⟩
         · with_reducible rfl
         clear hK K)
  refine wpQuiet_nil ?_
  rintro _ ⟨nq, rfl⟩
  replace z6 : (w3.drewN nq).cell? _ = _ := z6
  replace z8 : (w3.drewN nq).cell? _ = _ := z8
  replace z9 : (w3.drewN nq).cell? _ = _ := z9
  replace z10 : (w3.drewN nq).cell? _ = _ := z10
  replace K3 : Hid (Keep w (w3.drewN nq)) := K3.out.drewN nq
  replace NV : Hid (Li.Nv (w3.drewN nq) (.slice a n cp) N) := NV.out
  generalize w3.drewN nq = w4 at z6 z8 z9 z10 K3 NV ⊢
  go_wp2_with fail
  all_goals
    first
      | (go_ret3
         exact ⟨rfl, by first | exact K3.out | exact K3.out.alloc _⟩)
      | skip
end Go.Proofs.YtgciimjcdhallaaDoor
