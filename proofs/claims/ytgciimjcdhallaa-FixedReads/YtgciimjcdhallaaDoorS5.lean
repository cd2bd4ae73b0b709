import Derived.Test.YtgciimjcdhallaaDoorS4
set_option linter.unusedVariables false
set_option linter.unusedSimpArgs false
namespace Go.Proofs.YtgciimjcdhallaaDoor
open Go.RowKit Go.Shelf
theorem Nv_len {w : World} {v : Value} {N : Nat} (h : Li.Nv w v N) : ∃ a c n, v = .slice a n c ∧ (n = 0 ↔ N = 0) := by
  obtain ⟨a, c, l, rfl, hlc, hr, hm, hn, rfl⟩ := h
  refine ⟨a, c, l.length, rfl, ?_⟩
  constructor
  · intro q
    rw [List.length_eq_zero_iff.1 q]
    rfl
  · intro q
    refine Classical.byContradiction fun z => ?_
    have h1 := Lb.val_ge hn (fun e => z (by rw [e]; rfl))
    have h2 : 0 < 4294967296 ^ (l.length - 1) := Nat.pow_pos (by omega)
    omega
theorem alloc_cell (w : World) (arr : Array Value) (ty j : Nat) (v : Value) (h : arr[j]? = some v) : (w.alloc (.cells arr ty)).cell? ⟨w.heap.size, j, none⟩ = some v := by
  rw [cell_of_row _ _ j arr ty (0, 0) (heap_alloc_new w _)]
  exact h
theorem Nv_one (w : World) : Li.Nv (w.alloc (.cells #[.int .u32 1] 49)) (.slice (some ⟨w.heap.size, 0, none⟩) 1 1) 1 := by
  refine ⟨some ⟨w.heap.size, 0, none⟩, 1, [1], rfl, by simp, ?_, ?_, ?_, rfl⟩
  · intro i hi
    obtain rfl : i = 0 := by simpa using hi
    exact ⟨w.heap.size, 0, rfl, alloc_cell w _ 49 0 _ rfl⟩
  · intro x hx
    have : x = 1 := by simpa using hx
    omega
  · show ([1] : List Nat).getLastD 1 ≠ 0
    decide
set_option maxRecDepth 100000 in
set_option maxHeartbeats 2000000 in
theorem rDec_G1_A_true (s : List UInt8) (w : World) (hs : s.length ≤ 4096) (hng : pNg s = true) (hK : s.length = 2) (c : Nat) (hc : (s.getD 1 0).toNat = c) (hi : c ≠ 105) (hn : c ≠ 110) (x0 x1 x2 : Bool) (x3 x4 : Int) (x5 ng hx : Bool) (wh pt pw : List UInt8) 
    (hSp : ∀ wx, Calls Tryd.prog 15 #[.string ⟨s.toArray⟩] wx fun e w' => e = .returned (.tuple #[.agg (txt x0 x1 x2 x3 x4 x5 ng hx wh pt pw), .int .i64 (-1)]) ∧ Keep wx w')
    (hwd : allD wh) (hpd : allD pt) (hl : wh.length + pt.length ≤ 4096) (PW : Int) (hPw : ∀ wx, Calls Tryd.prog 17 #[.string ⟨pw.toArray⟩] wx fun e w' => e = .returned (.int .i64 PW) ∧ wx = w') (hPb : -100000 ≤ PW ∧ PW ≤ 100000) (N : Nat) (hN : nat (wh ++ pt) = N) (p : Int) (hp : PW - pt.length + 6 = p) (hG : N = 0) :
    Calls Tryd.prog 7 #[.string ⟨s.toArray⟩] w fun e w' => e = .returned (.tuple #[.int .i64 0, .int .i64 0, .int .i64 0]) ∧ Keep w w' := by
  have hDg := fun wx => Digits_any (wh ++ pt) wx (by rw [List.length_append]; omega) (hwd.app hpd)
  rw [hN] at hDg
  obtain ⟨C, hC⟩ : ∃ C, wh ++ pt = C := ⟨_, rfl⟩
  have hcat : (ByteArray.mk wh.toArray) ++ (ByteArray.mk pt.toArray) = ByteArray.mk C.toArray := by rw [catB, hC]
  rw [hC] at hDg
  have swh : (ByteArray.mk wh.toArray).size = wh.length := sz_mk wh
  have spt : (ByteArray.mk pt.toArray).size = pt.length := sz_mk pt
  obtain ⟨W, hW⟩ : ∃ W, wh.length = W := ⟨_, rfl⟩
  obtain ⟨Q, hQ⟩ : ∃ Q, pt.length = Q := ⟨_, rfl⟩
  rw [hW] at swh hl
  rw [hQ] at spt hl hp
  obtain ⟨hP1, hP2⟩ := hPb
  have x1 : IntKind.i64.wrap (PW - (Q : Int)) = PW - (Q : Int) := by rw [IntWalk.i64_left]; exact IntWalk.wrap64_in _ (by omega)
  have x2 : IntKind.i64.wrap (PW - (Q : Int) + 6) = p := by rw [IntWalk.i64_left, hp]; exact IntWalk.wrap64_in _ (by omega)
  have x3 : IntKind.i64.wrap (-((W : Int) + (Q : Int))) = -((W : Int) + (Q : Int)) := by rw [IntWalk.i64_left]; exact IntWalk.wrap64_in _ (by omega)
  have x4 : IntKind.i64.wrap (-((W : Int) + (Q : Int)) - 3) = -((W : Int) + (Q : Int)) - 3 := by rw [IntWalk.i64_left]; exact IntWalk.wrap64_in _ (by omega)
  replace hp : Hid _ := hp
  clear hwd hpd hN hC hW hQ
  have s1 : (ByteArray.mk s.toArray).size = s.length := sz_mk s
  have hix0 : ∀ wx, (Instr.index 9 (.string ⟨s.toArray⟩) (.int .i64 0)).run Tryd.prog wx = .ok (.int .u8 ((s.getD 0 0).toNat : Nat)) wx := fun wx => run_ix s 0 (by omega) wx
  obtain ⟨c0, hc0⟩ : ∃ c0, (s.getD 0 0).toNat = c0 := ⟨_, rfl⟩
  have hcb : ((c0 : Int) == 45) = true := by
    have h1 := ng_of (s := s) (by omega)
    rw [hng, hc0] at h1
    exact eqI (of_decide_eq_true h1.symm)
  rw [hc0] at hix0
  have hix1 : ∀ wx, (Instr.index 9 (.string ⟨s.toArray⟩) (.int .i64 1)).run Tryd.prog wx = .ok (.int .u8 ((s.getD 1 0).toNat : Nat)) wx := fun wx => run_ix s 1 (by omega) wx
  rw [hc] at hix1
  have hi2 : ((c : Int) == 105) = false := neI (by omega)
  have hn2 : ((c : Int) == 110) = false := neI (by omega)
  rw [hK] at s1 hs
  unfold txt at hSp
  clear hng hK hc0 hc
  go_enter Tryd.func7, Tryd.ntmps7
  go_wp2_with (first
    | (go_at_call 15; refine (hSp _).mono ?_; rintro e w2 ⟨rfl, k2⟩; have K2 : Hid (Keep w w2) := k2; clear k2)
    | (go_at_call 16; refine (hDg _).mono ?_; rintro e w3 ⟨v', rfl, nv, k3⟩; obtain ⟨a, cp, n, rfl, hn0⟩ := Nv_len nv; have NV : Hid (Li.Nv w3 (.slice a n cp) N) := nv; have z6 := k3.cell (alloc_cell w2 _ 43 6 _ rfl); have z8 := k3.cell (alloc_cell w2 _ 43 8 _ rfl); have z9 := k3.cell (alloc_cell w2 _ 43 9 _ rfl); have z10 := k3.cell (alloc_cell w2 _ 43 10 _ rfl); have K3 : Hid (Keep w w3) := (K2.out.alloc _).trans k3; obtain rfl : n = 0 := hn0.2 hG; clear k3 nv hn0)
    | fail)
  all_goals
    go_ret3
    exact ⟨rfl, by first | exact K3.out | exact K3.out.alloc _⟩
set_option maxRecDepth 100000 in
set_option maxHeartbeats 2000000 in
theorem rDec_G1_A_false (s : List UInt8) (w : World) (hs : s.length ≤ 4096) (hng : pNg s = false) (hK : s.length = 1) (c : Nat) (hc : (s.getD 0 0).toNat = c) (hi : c ≠ 105) (hn : c ≠ 110) (x0 x1 x2 : Bool) (x3 x4 : Int) (x5 ng hx : Bool) (wh pt pw : List UInt8) 
    (hSp : ∀ wx, Calls Tryd.prog 15 #[.string ⟨s.toArray⟩] wx fun e w' => e = .returned (.tuple #[.agg (txt x0 x1 x2 x3 x4 x5 ng hx wh pt pw), .int .i64 (-1)]) ∧ Keep wx w')
    (hwd : allD wh) (hpd : allD pt) (hl : wh.length + pt.length ≤ 4096) (PW : Int) (hPw : ∀ wx, Calls Tryd.prog 17 #[.string ⟨pw.toArray⟩] wx fun e w' => e = .returned (.int .i64 PW) ∧ wx = w') (hPb : -100000 ≤ PW ∧ PW ≤ 100000) (N : Nat) (hN : nat (wh ++ pt) = N) (p : Int) (hp : PW - pt.length + 6 = p) (hG : N = 0) :
    Calls Tryd.prog 7 #[.string ⟨s.toArray⟩] w fun e w' => e = .returned (.tuple #[.int .i64 0, .int .i64 0, .int .i64 0]) ∧ Keep w w' := by
  have hDg := fun wx => Digits_any (wh ++ pt) wx (by rw [List.length_append]; omega) (hwd.app hpd)
  rw [hN] at hDg
  obtain ⟨C, hC⟩ : ∃ C, wh ++ pt = C := ⟨_, rfl⟩
  have hcat : (ByteArray.mk wh.toArray) ++ (ByteArray.mk pt.toArray) = ByteArray.mk C.toArray := by rw [catB, hC]
  rw [hC] at hDg
  have swh : (ByteArray.mk wh.toArray).size = wh.length := sz_mk wh
  have spt : (ByteArray.mk pt.toArray).size = pt.length := sz_mk pt
  obtain ⟨W, hW⟩ : ∃ W, wh.length = W := ⟨_, rfl⟩
  obtain ⟨Q, hQ⟩ : ∃ Q, pt.length = Q := ⟨_, rfl⟩
  rw [hW] at swh hl
  rw [hQ] at spt hl hp
  obtain ⟨hP1, hP2⟩ := hPb
  have x1 : IntKind.i64.wrap (PW - (Q : Int)) = PW - (Q : Int) := by rw [IntWalk.i64_left]; exact IntWalk.wrap64_in _ (by omega)
  have x2 : IntKind.i64.wrap (PW - (Q : Int) + 6) = p := by rw [IntWalk.i64_left, hp]; exact IntWalk.wrap64_in _ (by omega)
  have x3 : IntKind.i64.wrap (-((W : Int) + (Q : Int))) = -((W : Int) + (Q : Int)) := by rw [IntWalk.i64_left]; exact IntWalk.wrap64_in _ (by omega)
  have x4 : IntKind.i64.wrap (-((W : Int) + (Q : Int)) - 3) = -((W : Int) + (Q : Int)) - 3 := by rw [IntWalk.i64_left]; exact IntWalk.wrap64_in _ (by omega)
  replace hp : Hid _ := hp
  clear hwd hpd hN hC hW hQ
  have s1 : (ByteArray.mk s.toArray).size = s.length := sz_mk s
  have hix0 : ∀ wx, (Instr.index 9 (.string ⟨s.toArray⟩) (.int .i64 0)).run Tryd.prog wx = .ok (.int .u8 ((s.getD 0 0).toNat : Nat)) wx := fun wx => run_ix s 0 (by omega) wx
  obtain ⟨c0, hc0⟩ : ∃ c0, (s.getD 0 0).toNat = c0 := ⟨_, rfl⟩
  have hcb : ((c0 : Int) == 45) = false := by
    have h1 := ng_of (s := s) (by omega)
    rw [hng, hc0] at h1
    exact neI (by have := of_decide_eq_false h1.symm; omega)
  rw [hc0] at hix0
  obtain rfl : c = c0 := by rw [← hc, hc0]
  have hi2 : ((c : Int) == 105) = false := neI (by omega)
  have hn2 : ((c : Int) == 110) = false := neI (by omega)
  rw [hK] at s1 hs
  unfold txt at hSp
  clear hng hK hc0 hc
  go_enter Tryd.func7, Tryd.ntmps7
  go_wp2_with (first
    | (go_at_call 15; refine (hSp _).mono ?_; rintro e w2 ⟨rfl, k2⟩; have K2 : Hid (Keep w w2) := k2; clear k2)
    | (go_at_call 16; refine (hDg _).mono ?_; rintro e w3 ⟨v', rfl, nv, k3⟩; obtain ⟨a, cp, n, rfl, hn0⟩ := Nv_len nv; have NV : Hid (Li.Nv w3 (.slice a n cp) N) := nv; have z6 := k3.cell (alloc_cell w2 _ 43 6 _ rfl); have z8 := k3.cell (alloc_cell w2 _ 43 8 _ rfl); have z9 := k3.cell (alloc_cell w2 _ 43 9 _ rfl); have z10 := k3.cell (alloc_cell w2 _ 43 10 _ rfl); have K3 : Hid (Keep w w3) := (K2.out.alloc _).trans k3; obtain rfl : n = 0 := hn0.2 hG; clear k3 nv hn0)
    | fail)
  all_goals
    go_ret3
    exact ⟨rfl, by first | exact K3.out | exact K3.out.alloc _⟩
set_option maxRecDepth 100000 in
set_option maxHeartbeats 2000000 in
theorem rDec_G1_B_true (s : List UInt8) (w : World) (hs : s.length ≤ 4096) (hng : pNg s = true) (hK : 2 < s.length) (c : Nat) (hc : (s.getD 1 0).toNat = c) (hi : c ≠ 105) (hn : c ≠ 110) (hz : c ≠ 48) (x0 x1 x2 : Bool) (x3 x4 : Int) (x5 ng hx : Bool) (wh pt pw : List UInt8) 
    (hSp : ∀ wx, Calls Tryd.prog 15 #[.string ⟨s.toArray⟩] wx fun e w' => e = .returned (.tuple #[.agg (txt x0 x1 x2 x3 x4 x5 ng hx wh pt pw), .int .i64 (-1)]) ∧ Keep wx w')
    (hwd : allD wh) (hpd : allD pt) (hl : wh.length + pt.length ≤ 4096) (PW : Int) (hPw : ∀ wx, Calls Tryd.prog 17 #[.string ⟨pw.toArray⟩] wx fun e w' => e = .returned (.int .i64 PW) ∧ wx = w') (hPb : -100000 ≤ PW ∧ PW ≤ 100000) (N : Nat) (hN : nat (wh ++ pt) = N) (p : Int) (hp : PW - pt.length + 6 = p) (hG : N = 0) :
    Calls Tryd.prog 7 #[.string ⟨s.toArray⟩] w fun e w' => e = .returned (.tuple #[.int .i64 0, .int .i64 0, .int .i64 0]) ∧ Keep w w' := by
  have hDg := fun wx => Digits_any (wh ++ pt) wx (by rw [List.length_append]; omega) (hwd.app hpd)
  rw [hN] at hDg
  obtain ⟨C, hC⟩ : ∃ C, wh ++ pt = C := ⟨_, rfl⟩
  have hcat : (ByteArray.mk wh.toArray) ++ (ByteArray.mk pt.toArray) = ByteArray.mk C.toArray := by rw [catB, hC]
  rw [hC] at hDg
  have swh : (ByteArray.mk wh.toArray).size = wh.length := sz_mk wh
  have spt : (ByteArray.mk pt.toArray).size = pt.length := sz_mk pt
  obtain ⟨W, hW⟩ : ∃ W, wh.length = W := ⟨_, rfl⟩
  obtain ⟨Q, hQ⟩ : ∃ Q, pt.length = Q := ⟨_, rfl⟩
  rw [hW] at swh hl
  rw [hQ] at spt hl hp
  obtain ⟨hP1, hP2⟩ := hPb
  have x1 : IntKind.i64.wrap (PW - (Q : Int)) = PW - (Q : Int) := by rw [IntWalk.i64_left]; exact IntWalk.wrap64_in _ (by omega)
  have x2 : IntKind.i64.wrap (PW - (Q : Int) + 6) = p := by rw [IntWalk.i64_left, hp]; exact IntWalk.wrap64_in _ (by omega)
  have x3 : IntKind.i64.wrap (-((W : Int) + (Q : Int))) = -((W : Int) + (Q : Int)) := by rw [IntWalk.i64_left]; exact IntWalk.wrap64_in _ (by omega)
  have x4 : IntKind.i64.wrap (-((W : Int) + (Q : Int)) - 3) = -((W : Int) + (Q : Int)) - 3 := by rw [IntWalk.i64_left]; exact IntWalk.wrap64_in _ (by omega)
  replace hp : Hid _ := hp
  clear hwd hpd hN hC hW hQ
  have s1 : (ByteArray.mk s.toArray).size = s.length := sz_mk s
  have hix0 : ∀ wx, (Instr.index 9 (.string ⟨s.toArray⟩) (.int .i64 0)).run Tryd.prog wx = .ok (.int .u8 ((s.getD 0 0).toNat : Nat)) wx := fun wx => run_ix s 0 (by omega) wx
  obtain ⟨c0, hc0⟩ : ∃ c0, (s.getD 0 0).toNat = c0 := ⟨_, rfl⟩
  have hcb : ((c0 : Int) == 45) = true := by
    have h1 := ng_of (s := s) (by omega)
    rw [hng, hc0] at h1
    exact eqI (of_decide_eq_true h1.symm)
  rw [hc0] at hix0
  have hix1 : ∀ wx, (Instr.index 9 (.string ⟨s.toArray⟩) (.int .i64 1)).run Tryd.prog wx = .ok (.int .u8 ((s.getD 1 0).toNat : Nat)) wx := fun wx => run_ix s 1 (by omega) wx
  rw [hc] at hix1
  have hi2 : ((c : Int) == 105) = false := neI (by omega)
  have hn2 : ((c : Int) == 110) = false := neI (by omega)
  have hz2 : ((c : Int) == 48) = false := neI (by omega)
  obtain ⟨L, hL⟩ : ∃ L, s.length = L := ⟨_, rfl⟩
  rw [hL] at s1 hs hK
  have hL0 : (0 : Int) < (L : Int) := by omega
  have hL1 : (1 : Int) < (L : Int) := by omega
  have hL2 : (2 : Int) < (L : Int) := by omega
  unfold txt at hSp
  clear hng hL hc0 hc
  go_enter Tryd.func7, Tryd.ntmps7
  go_wp2_with (first
    | (go_at_call 15; refine (hSp _).mono ?_; rintro e w2 ⟨rfl, k2⟩; have K2 : Hid (Keep w w2) := k2; clear k2)
    | (go_at_call 16; refine (hDg _).mono ?_; rintro e w3 ⟨v', rfl, nv, k3⟩; obtain ⟨a, cp, n, rfl, hn0⟩ := Nv_len nv; have NV : Hid (Li.Nv w3 (.slice a n cp) N) := nv; have z6 := k3.cell (alloc_cell w2 _ 43 6 _ rfl); have z8 := k3.cell (alloc_cell w2 _ 43 8 _ rfl); have z9 := k3.cell (alloc_cell w2 _ 43 9 _ rfl); have z10 := k3.cell (alloc_cell w2 _ 43 10 _ rfl); have K3 : Hid (Keep w w3) := (K2.out.alloc _).trans k3; obtain rfl : n = 0 := hn0.2 hG; clear k3 nv hn0)
    | fail)
  all_goals
    go_ret3
    exact ⟨rfl, by first | exact K3.out | exact K3.out.alloc _⟩
set_option maxRecDepth 100000 in
set_option maxHeartbeats 2000000 in
theorem rDec_G1_B_false (s : List UInt8) (w : World) (hs : s.length ≤ 4096) (hng : pNg s = false) (hK : 1 < s.length) (c : Nat) (hc : (s.getD 0 0).toNat = c) (hi : c ≠ 105) (hn : c ≠ 110) (hz : c ≠ 48) (x0 x1 x2 : Bool) (x3 x4 : Int) (x5 ng hx : Bool) (wh pt pw : List UInt8) 
    (hSp : ∀ wx, Calls Tryd.prog 15 #[.string ⟨s.toArray⟩] wx fun e w' => e = .returned (.tuple #[.agg (txt x0 x1 x2 x3 x4 x5 ng hx wh pt pw), .int .i64 (-1)]) ∧ Keep wx w')
    (hwd : allD wh) (hpd : allD pt) (hl : wh.length + pt.length ≤ 4096) (PW : Int) (hPw : ∀ wx, Calls Tryd.prog 17 #[.string ⟨pw.toArray⟩] wx fun e w' => e = .returned (.int .i64 PW) ∧ wx = w') (hPb : -100000 ≤ PW ∧ PW ≤ 100000) (N : Nat) (hN : nat (wh ++ pt) = N) (p : Int) (hp : PW - pt.length + 6 = p) (hG : N = 0) :
    Calls Tryd.prog 7 #[.string ⟨s.toArray⟩] w fun e w' => e = .returned (.tuple #[.int .i64 0, .int .i64 0, .int .i64 0]) ∧ Keep w w' := by
  have hDg := fun wx => Digits_any (wh ++ pt) wx (by rw [List.length_append]; omega) (hwd.app hpd)
  rw [hN] at hDg
  obtain ⟨C, hC⟩ : ∃ C, wh ++ pt = C := ⟨_, rfl⟩
  have hcat : (ByteArray.mk wh.toArray) ++ (ByteArray.mk pt.toArray) = ByteArray.mk C.toArray := by rw [catB, hC]
  rw [hC] at hDg
  have swh : (ByteArray.mk wh.toArray).size = wh.length := sz_mk wh
  have spt : (ByteArray.mk pt.toArray).size = pt.length := sz_mk pt
  obtain ⟨W, hW⟩ : ∃ W, wh.length = W := ⟨_, rfl⟩
  obtain ⟨Q, hQ⟩ : ∃ Q, pt.length = Q := ⟨_, rfl⟩
  rw [hW] at swh hl
  rw [hQ] at spt hl hp
  obtain ⟨hP1, hP2⟩ := hPb
  have x1 : IntKind.i64.wrap (PW - (Q : Int)) = PW - (Q : Int) := by rw [IntWalk.i64_left]; exact IntWalk.wrap64_in _ (by omega)
  have x2 : IntKind.i64.wrap (PW - (Q : Int) + 6) = p := by rw [IntWalk.i64_left, hp]; exact IntWalk.wrap64_in _ (by omega)
  have x3 : IntKind.i64.wrap (-((W : Int) + (Q : Int))) = -((W : Int) + (Q : Int)) := by rw [IntWalk.i64_left]; exact IntWalk.wrap64_in _ (by omega)
  have x4 : IntKind.i64.wrap (-((W : Int) + (Q : Int)) - 3) = -((W : Int) + (Q : Int)) - 3 := by rw [IntWalk.i64_left]; exact IntWalk.wrap64_in _ (by omega)
  replace hp : Hid _ := hp
  clear hwd hpd hN hC hW hQ
  have s1 : (ByteArray.mk s.toArray).size = s.length := sz_mk s
  have hix0 : ∀ wx, (Instr.index 9 (.string ⟨s.toArray⟩) (.int .i64 0)).run Tryd.prog wx = .ok (.int .u8 ((s.getD 0 0).toNat : Nat)) wx := fun wx => run_ix s 0 (by omega) wx
  obtain ⟨c0, hc0⟩ : ∃ c0, (s.getD 0 0).toNat = c0 := ⟨_, rfl⟩
  have hcb : ((c0 : Int) == 45) = false := by
    have h1 := ng_of (s := s) (by omega)
    rw [hng, hc0] at h1
    exact neI (by have := of_decide_eq_false h1.symm; omega)
  rw [hc0] at hix0
  obtain rfl : c = c0 := by rw [← hc, hc0]
  have hi2 : ((c : Int) == 105) = false := neI (by omega)
  have hn2 : ((c : Int) == 110) = false := neI (by omega)
  have hz2 : ((c : Int) == 48) = false := neI (by omega)
  obtain ⟨L, hL⟩ : ∃ L, s.length = L := ⟨_, rfl⟩
  rw [hL] at s1 hs hK
  have hL0 : (0 : Int) < (L : Int) := by omega
  have hL1 : (0 : Int) < (L : Int) := by omega
  have hL2 : (1 : Int) < (L : Int) := by omega
  unfold txt at hSp
  clear hng hL hc0 hc
  go_enter Tryd.func7, Tryd.ntmps7
  go_wp2_with (first
    | (go_at_call 15; refine (hSp _).mono ?_; rintro e w2 ⟨rfl, k2⟩; have K2 : Hid (Keep w w2) := k2; clear k2)
    | (go_at_call 16; refine (hDg _).mono ?_; rintro e w3 ⟨v', rfl, nv, k3⟩; obtain ⟨a, cp, n, rfl, hn0⟩ := Nv_len nv; have NV : Hid (Li.Nv w3 (.slice a n cp) N) := nv; have z6 := k3.cell (alloc_cell w2 _ 43 6 _ rfl); have z8 := k3.cell (alloc_cell w2 _ 43 8 _ rfl); have z9 := k3.cell (alloc_cell w2 _ 43 9 _ rfl); have z10 := k3.cell (alloc_cell w2 _ 43 10 _ rfl); have K3 : Hid (Keep w w3) := (K2.out.alloc _).trans k3; obtain rfl : n = 0 := hn0.2 hG; clear k3 nv hn0)
    | fail)
  all_goals
    go_ret3
    exact ⟨rfl, by first | exact K3.out | exact K3.out.alloc _⟩
set_option maxRecDepth 100000 in
set_option maxHeartbeats 2000000 in
theorem rDec_G1_C_true (s : List UInt8) (w : World) (hs : s.length ≤ 4096) (hng : pNg s = true) (hK : 2 < s.length) (hc : (s.getD 1 0).toNat = 48) (d : Nat) (hd : (s.getD 2 0).toNat = d) (hz : d ≠ 120) (x0 x1 x2 : Bool) (x3 x4 : Int) (x5 ng hx : Bool) (wh pt pw : List UInt8) 
    (hSp : ∀ wx, Calls Tryd.prog 15 #[.string ⟨s.toArray⟩] wx fun e w' => e = .returned (.tuple #[.agg (txt x0 x1 x2 x3 x4 x5 ng hx wh pt pw), .int .i64 (-1)]) ∧ Keep wx w')
    (hwd : allD wh) (hpd : allD pt) (hl : wh.length + pt.length ≤ 4096) (PW : Int) (hPw : ∀ wx, Calls Tryd.prog 17 #[.string ⟨pw.toArray⟩] wx fun e w' => e = .returned (.int .i64 PW) ∧ wx = w') (hPb : -100000 ≤ PW ∧ PW ≤ 100000) (N : Nat) (hN : nat (wh ++ pt) = N) (p : Int) (hp : PW - pt.length + 6 = p) (hG : N = 0) :
    Calls Tryd.prog 7 #[.string ⟨s.toArray⟩] w fun e w' => e = .returned (.tuple #[.int .i64 0, .int .i64 0, .int .i64 0]) ∧ Keep w w' := by
  have hDg := fun wx => Digits_any (wh ++ pt) wx (by rw [List.length_append]; omega) (hwd.app hpd)
  rw [hN] at hDg
  obtain ⟨C, hC⟩ : ∃ C, wh ++ pt = C := ⟨_, rfl⟩
  have hcat : (ByteArray.mk wh.toArray) ++ (ByteArray.mk pt.toArray) = ByteArray.mk C.toArray := by rw [catB, hC]
  rw [hC] at hDg
  have swh : (ByteArray.mk wh.toArray).size = wh.length := sz_mk wh
  have spt : (ByteArray.mk pt.toArray).size = pt.length := sz_mk pt
  obtain ⟨W, hW⟩ : ∃ W, wh.length = W := ⟨_, rfl⟩
  obtain ⟨Q, hQ⟩ : ∃ Q, pt.length = Q := ⟨_, rfl⟩
  rw [hW] at swh hl
  rw [hQ] at spt hl hp
  obtain ⟨hP1, hP2⟩ := hPb
  have x1 : IntKind.i64.wrap (PW - (Q : Int)) = PW - (Q : Int) := by rw [IntWalk.i64_left]; exact IntWalk.wrap64_in _ (by omega)
  have x2 : IntKind.i64.wrap (PW - (Q : Int) + 6) = p := by rw [IntWalk.i64_left, hp]; exact IntWalk.wrap64_in _ (by omega)
  have x3 : IntKind.i64.wrap (-((W : Int) + (Q : Int))) = -((W : Int) + (Q : Int)) := by rw [IntWalk.i64_left]; exact IntWalk.wrap64_in _ (by omega)
  have x4 : IntKind.i64.wrap (-((W : Int) + (Q : Int)) - 3) = -((W : Int) + (Q : Int)) - 3 := by rw [IntWalk.i64_left]; exact IntWalk.wrap64_in _ (by omega)
  replace hp : Hid _ := hp
  clear hwd hpd hN hC hW hQ
  have s1 : (ByteArray.mk s.toArray).size = s.length := sz_mk s
  have hix0 : ∀ wx, (Instr.index 9 (.string ⟨s.toArray⟩) (.int .i64 0)).run Tryd.prog wx = .ok (.int .u8 ((s.getD 0 0).toNat : Nat)) wx := fun wx => run_ix s 0 (by omega) wx
  obtain ⟨c0, hc0⟩ : ∃ c0, (s.getD 0 0).toNat = c0 := ⟨_, rfl⟩
  have hcb : ((c0 : Int) == 45) = true := by
    have h1 := ng_of (s := s) (by omega)
    rw [hng, hc0] at h1
    exact eqI (of_decide_eq_true h1.symm)
  rw [hc0] at hix0
  have hix1 : ∀ wx, (Instr.index 9 (.string ⟨s.toArray⟩) (.int .i64 1)).run Tryd.prog wx = .ok (.int .u8 ((s.getD 1 0).toNat : Nat)) wx := fun wx => run_ix s 1 (by omega) wx
  rw [hc] at hix1
  have hix2 : ∀ wx, (Instr.index 9 (.string ⟨s.toArray⟩) (.int .i64 2)).run Tryd.prog wx = .ok (.int .u8 ((s.getD 2 0).toNat : Nat)) wx := fun wx => run_ix s 2 (by omega) wx
  rw [hd] at hix2
  have hz2 : ((d : Int) == 120) = false := neI (by omega)
  obtain ⟨L, hL⟩ : ∃ L, s.length = L := ⟨_, rfl⟩
  rw [hL] at s1 hs hK
  have hL0 : (0 : Int) < (L : Int) := by omega
  have hL1 : (1 : Int) < (L : Int) := by omega
  have hL2 : (2 : Int) < (L : Int) := by omega
  unfold txt at hSp
  clear hng hL hc0 hc hd
  go_enter Tryd.func7, Tryd.ntmps7
  go_wp2_with (first
    | (go_at_call 15; refine (hSp _).mono ?_; rintro e w2 ⟨rfl, k2⟩; have K2 : Hid (Keep w w2) := k2; clear k2)
    | (go_at_call 16; refine (hDg _).mono ?_; rintro e w3 ⟨v', rfl, nv, k3⟩; obtain ⟨a, cp, n, rfl, hn0⟩ := Nv_len nv; have NV : Hid (Li.Nv w3 (.slice a n cp) N) := nv; have z6 := k3.cell (alloc_cell w2 _ 43 6 _ rfl); have z8 := k3.cell (alloc_cell w2 _ 43 8 _ rfl); have z9 := k3.cell (alloc_cell w2 _ 43 9 _ rfl); have z10 := k3.cell (alloc_cell w2 _ 43 10 _ rfl); have K3 : Hid (Keep w w3) := (K2.out.alloc _).trans k3; obtain rfl : n = 0 := hn0.2 hG; clear k3 nv hn0)
    | fail)
  all_goals
    go_ret3
    exact ⟨rfl, by first | exact K3.out | exact K3.out.alloc _⟩
set_option maxRecDepth 100000 in
set_option maxHeartbeats 2000000 in
theorem rDec_G1_C_false (s : List UInt8) (w : World) (hs : s.length ≤ 4096) (hng : pNg s = false) (hK : 1 < s.length) (hc : (s.getD 0 0).toNat = 48) (d : Nat) (hd : (s.getD 1 0).toNat = d) (hz : d ≠ 120) (x0 x1 x2 : Bool) (x3 x4 : Int) (x5 ng hx : Bool) (wh pt pw : List UInt8) 
    (hSp : ∀ wx, Calls Tryd.prog 15 #[.string ⟨s.toArray⟩] wx fun e w' => e = .returned (.tuple #[.agg (txt x0 x1 x2 x3 x4 x5 ng hx wh pt pw), .int .i64 (-1)]) ∧ Keep wx w')
    (hwd : allD wh) (hpd : allD pt) (hl : wh.length + pt.length ≤ 4096) (PW : Int) (hPw : ∀ wx, Calls Tryd.prog 17 #[.string ⟨pw.toArray⟩] wx fun e w' => e = .returned (.int .i64 PW) ∧ wx = w') (hPb : -100000 ≤ PW ∧ PW ≤ 100000) (N : Nat) (hN : nat (wh ++ pt) = N) (p : Int) (hp : PW - pt.length + 6 = p) (hG : N = 0) :
    Calls Tryd.prog 7 #[.string ⟨s.toArray⟩] w fun e w' => e = .returned (.tuple #[.int .i64 0, .int .i64 0, .int .i64 0]) ∧ Keep w w' := by
  have hDg := fun wx => Digits_any (wh ++ pt) wx (by rw [List.length_append]; omega) (hwd.app hpd)
  rw [hN] at hDg
  obtain ⟨C, hC⟩ : ∃ C, wh ++ pt = C := ⟨_, rfl⟩
  have hcat : (ByteArray.mk wh.toArray) ++ (ByteArray.mk pt.toArray) = ByteArray.mk C.toArray := by rw [catB, hC]
  rw [hC] at hDg
  have swh : (ByteArray.mk wh.toArray).size = wh.length := sz_mk wh
  have spt : (ByteArray.mk pt.toArray).size = pt.length := sz_mk pt
  obtain ⟨W, hW⟩ : ∃ W, wh.length = W := ⟨_, rfl⟩
  obtain ⟨Q, hQ⟩ : ∃ Q, pt.length = Q := ⟨_, rfl⟩
  rw [hW] at swh hl
  rw [hQ] at spt hl hp
  obtain ⟨hP1, hP2⟩ := hPb
  have x1 : IntKind.i64.wrap (PW - (Q : Int)) = PW - (Q : Int) := by rw [IntWalk.i64_left]; exact IntWalk.wrap64_in _ (by omega)
  have x2 : IntKind.i64.wrap (PW - (Q : Int) + 6) = p := by rw [IntWalk.i64_left, hp]; exact IntWalk.wrap64_in _ (by omega)
  have x3 : IntKind.i64.wrap (-((W : Int) + (Q : Int))) = -((W : Int) + (Q : Int)) := by rw [IntWalk.i64_left]; exact IntWalk.wrap64_in _ (by omega)
  have x4 : IntKind.i64.wrap (-((W : Int) + (Q : Int)) - 3) = -((W : Int) + (Q : Int)) - 3 := by rw [IntWalk.i64_left]; exact IntWalk.wrap64_in _ (by omega)
  replace hp : Hid _ := hp
  clear hwd hpd hN hC hW hQ
  have s1 : (ByteArray.mk s.toArray).size = s.length := sz_mk s
  have hix0 : ∀ wx, (Instr.index 9 (.string ⟨s.toArray⟩) (.int .i64 0)).run Tryd.prog wx = .ok (.int .u8 ((s.getD 0 0).toNat : Nat)) wx := fun wx => run_ix s 0 (by omega) wx
  obtain ⟨c0, hc0⟩ : ∃ c0, (s.getD 0 0).toNat = c0 := ⟨_, rfl⟩
  have hcb : ((c0 : Int) == 45) = false := by
    have h1 := ng_of (s := s) (by omega)
    rw [hng, hc0] at h1
    exact neI (by have := of_decide_eq_false h1.symm; omega)
  rw [hc0] at hix0
  obtain rfl : c0 = 48 := by rw [← hc0, hc]
  have hix2 : ∀ wx, (Instr.index 9 (.string ⟨s.toArray⟩) (.int .i64 1)).run Tryd.prog wx = .ok (.int .u8 ((s.getD 1 0).toNat : Nat)) wx := fun wx => run_ix s 1 (by omega) wx
  rw [hd] at hix2
  have hz2 : ((d : Int) == 120) = false := neI (by omega)
  obtain ⟨L, hL⟩ : ∃ L, s.length = L := ⟨_, rfl⟩
  rw [hL] at s1 hs hK
  have hL0 : (0 : Int) < (L : Int) := by omega
  have hL1 : (0 : Int) < (L : Int) := by omega
  have hL2 : (1 : Int) < (L : Int) := by omega
  unfold txt at hSp
  clear hng hL hc0 hc hd
  go_enter Tryd.func7, Tryd.ntmps7
  go_wp2_with (first
    | (go_at_call 15; refine (hSp _).mono ?_; rintro e w2 ⟨rfl, k2⟩; have K2 : Hid (Keep w w2) := k2; clear k2)
    | (go_at_call 16; refine (hDg _).mono ?_; rintro e w3 ⟨v', rfl, nv, k3⟩; obtain ⟨a, cp, n, rfl, hn0⟩ := Nv_len nv; have NV : Hid (Li.Nv w3 (.slice a n cp) N) := nv; have z6 := k3.cell (alloc_cell w2 _ 43 6 _ rfl); have z8 := k3.cell (alloc_cell w2 _ 43 8 _ rfl); have z9 := k3.cell (alloc_cell w2 _ 43 9 _ rfl); have z10 := k3.cell (alloc_cell w2 _ 43 10 _ rfl); have K3 : Hid (Keep w w3) := (K2.out.alloc _).trans k3; obtain rfl : n = 0 := hn0.2 hG; clear k3 nv hn0)
    | fail)
  all_goals
    go_ret3
    exact ⟨rfl, by first | exact K3.out | exact K3.out.alloc _⟩
end Go.Proofs.YtgciimjcdhallaaDoor
