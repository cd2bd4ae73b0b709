import Derived.Test.YtgciimjcdhallaaDoorS3
set_option linter.unusedVariables false
set_option linter.unusedSimpArgs false
namespace Go.Proofs.YtgciimjcdhallaaDoor
open Go.RowKit Go.Shelf
/-- A text as Split hands it over. -/
def txt (x0 x1 x2 : Bool) (x3 x4 : Int) (x5 ng hx : Bool) (wh pt pw : List UInt8) : Array Value := #[.bool x0, .bool x1, .bool x2, .int .u64 x3, .int .i64 x4, .bool x5, .bool ng, .bool hx, .string ⟨wh.toArray⟩, .string ⟨pt.toArray⟩, .string ⟨pw.toArray⟩]
set_option maxRecDepth 100000 in
set_option maxHeartbeats 2000000 in
theorem rDec_bad_Z_true (s : List UInt8) (w : World) (hs : s.length ≤ 4096) (hng : pNg s = true) (hK : s.length = 1) (x0 x1 x2 : Bool) (x3 x4 : Int) (x5 ng hx : Bool) (wh pt pw : List UInt8) (at' : Nat)
    (hSp : ∀ wx, Calls Tryd.prog 15 #[.string ⟨s.toArray⟩] wx fun e w' => e = .returned (.tuple #[.agg (txt x0 x1 x2 x3 x4 x5 ng hx wh pt pw), .int .i64 (at' : Int)]) ∧ Keep wx w') :
    Calls Tryd.prog 7 #[.string ⟨s.toArray⟩] w fun e w' => e = .returned (.tuple #[.int .i64 0, .int .i64 40, .int .i64 (at' : Int)]) ∧ Keep w w' := by
  have s1 : (ByteArray.mk s.toArray).size = s.length := sz_mk s
  have hix0 : ∀ wx, (Instr.index 9 (.string ⟨s.toArray⟩) (.int .i64 0)).run Tryd.prog wx = .ok (.int .u8 ((s.getD 0 0).toNat : Nat)) wx := fun wx => run_ix s 0 (by omega) wx
  obtain ⟨c0, hc0⟩ : ∃ c0, (s.getD 0 0).toNat = c0 := ⟨_, rfl⟩
  have hcb : ((c0 : Int) == 45) = true := by
    have h1 := ng_of (s := s) (by omega)
    rw [hng, hc0] at h1
    exact eqI (of_decide_eq_true h1.symm)
  rw [hc0] at hix0
  rw [hK] at s1 hs
  unfold txt at hSp
  clear hng hK hc0
  go_enter Tryd.func7, Tryd.ntmps7
  go_wp2_with (go_at_call 15; refine (hSp _).mono ?_; rintro e w2 ⟨rfl, k2⟩; replace k2 : Hid (Keep w w2) := k2)
  all_goals
    go_ret3
    exact ⟨rfl, by first | exact k2.out.alloc _ | exact k2.out⟩
set_option maxRecDepth 100000 in
set_option maxHeartbeats 2000000 in
theorem rDec_bad_Z_false (s : List UInt8) (w : World) (hs : s.length ≤ 4096) (hng : pNg s = false) (hK : s.length = 0) (x0 x1 x2 : Bool) (x3 x4 : Int) (x5 ng hx : Bool) (wh pt pw : List UInt8) (at' : Nat)
    (hSp : ∀ wx, Calls Tryd.prog 15 #[.string ⟨s.toArray⟩] wx fun e w' => e = .returned (.tuple #[.agg (txt x0 x1 x2 x3 x4 x5 ng hx wh pt pw), .int .i64 (at' : Int)]) ∧ Keep wx w') :
    Calls Tryd.prog 7 #[.string ⟨s.toArray⟩] w fun e w' => e = .returned (.tuple #[.int .i64 0, .int .i64 40, .int .i64 (at' : Int)]) ∧ Keep w w' := by
  have s1 : (ByteArray.mk s.toArray).size = s.length := sz_mk s
  rw [hK] at s1 hs
  unfold txt at hSp
  clear hng hK
  go_enter Tryd.func7, Tryd.ntmps7
  go_wp2_with (go_at_call 15; refine (hSp _).mono ?_; rintro e w2 ⟨rfl, k2⟩; replace k2 : Hid (Keep w w2) := k2)
  all_goals
    go_ret3
    exact ⟨rfl, by first | exact k2.out.alloc _ | exact k2.out⟩
set_option maxRecDepth 100000 in
set_option maxHeartbeats 2000000 in
theorem rDec_bad_A_true (s : List UInt8) (w : World) (hs : s.length ≤ 4096) (hng : pNg s = true) (hK : s.length = 2) (c : Nat) (hc : (s.getD 1 0).toNat = c) (hi : c ≠ 105) (hn : c ≠ 110) (x0 x1 x2 : Bool) (x3 x4 : Int) (x5 ng hx : Bool) (wh pt pw : List UInt8) (at' : Nat)
    (hSp : ∀ wx, Calls Tryd.prog 15 #[.string ⟨s.toArray⟩] wx fun e w' => e = .returned (.tuple #[.agg (txt x0 x1 x2 x3 x4 x5 ng hx wh pt pw), .int .i64 (at' : Int)]) ∧ Keep wx w') :
    Calls Tryd.prog 7 #[.string ⟨s.toArray⟩] w fun e w' => e = .returned (.tuple #[.int .i64 0, .int .i64 40, .int .i64 (at' : Int)]) ∧ Keep w w' := by
  have s1 : (ByteArray.mk s.toArray).size = s.length := sz_mk s
  have hix0 : ∀ wx, (Instr.index 9 (.string ⟨s.toArray⟩) (.int .i64 0)).run Tryd.prog wx = .ok (.int .u8 ((s.getD 0 0).toNat : Nat)) wx := fun wx => run_ix s 0 (by omega) wx
  obtain ⟨c0, hc0⟩ : ∃ c0, (s.getD 0 0).toNat = c0 := ⟨_, rfl⟩
  have hcb : ((c0 : Int) == 45) = true := by
    have h1 := ng_of (s := s) (by omega)
    rw [hng, hc0] at h1
    exact eqI (of_decide_eq_true h1.symm)
  rw [hc0] at hix0
  have hix1 : ∀ wx, (Instr.index 9 (.string ⟨s.toArray⟩) (.int .i64 1)).run Tryd.prog wx = .ok (.int .u8 ((s.getD 1 0).toNat : Nat)) wx := fun wx => run_ix s 1 (by omega) wx
  rw [hc] at hix1
  have hi2 : ((c : Int) == 105) = false := neI (by omega)
  have hn2 : ((c : Int) == 110) = false := neI (by omega)
  rw [hK] at s1 hs
  unfold txt at hSp
  clear hng hK hc0 hc
  go_enter Tryd.func7, Tryd.ntmps7
  go_wp2_with (go_at_call 15; refine (hSp _).mono ?_; rintro e w2 ⟨rfl, k2⟩; replace k2 : Hid (Keep w w2) := k2)
  all_goals
    go_ret3
    exact ⟨rfl, by first | exact k2.out.alloc _ | exact k2.out⟩
set_option maxRecDepth 100000 in
set_option maxHeartbeats 2000000 in
theorem rDec_bad_A_false (s : List UInt8) (w : World) (hs : s.length ≤ 4096) (hng : pNg s = false) (hK : s.length = 1) (c : Nat) (hc : (s.getD 0 0).toNat = c) (hi : c ≠ 105) (hn : c ≠ 110) (x0 x1 x2 : Bool) (x3 x4 : Int) (x5 ng hx : Bool) (wh pt pw : List UInt8) (at' : Nat)
    (hSp : ∀ wx, Calls Tryd.prog 15 #[.string ⟨s.toArray⟩] wx fun e w' => e = .returned (.tuple #[.agg (txt x0 x1 x2 x3 x4 x5 ng hx wh pt pw), .int .i64 (at' : Int)]) ∧ Keep wx w') :
    Calls Tryd.prog 7 #[.string ⟨s.toArray⟩] w fun e w' => e = .returned (.tuple #[.int .i64 0, .int .i64 40, .int .i64 (at' : Int)]) ∧ Keep w w' := by
  have s1 : (ByteArray.mk s.toArray).size = s.length := sz_mk s
  have hix0 : ∀ wx, (Instr.index 9 (.string ⟨s.toArray⟩) (.int .i64 0)).run Tryd.prog wx = .ok (.int .u8 ((s.getD 0 0).toNat : Nat)) wx := fun wx => run_ix s 0 (by omega) wx
  obtain ⟨c0, hc0⟩ : ∃ c0, (s.getD 0 0).toNat = c0 := ⟨_, rfl⟩
  have hcb : ((c0 : Int) == 45) = false := by
    have h1 := ng_of (s := s) (by omega)
    rw [hng, hc0] at h1
    exact neI (by have := of_decide_eq_false h1.symm; omega)
  rw [hc0] at hix0
  obtain rfl : c = c0 := by rw [← hc, hc0]
  have hi2 : ((c : Int) == 105) = false := neI (by omega)
  have hn2 : ((c : Int) == 110) = false := neI (by omega)
  rw [hK] at s1 hs
  unfold txt at hSp
  clear hng hK hc0 hc
  go_enter Tryd.func7, Tryd.ntmps7
  go_wp2_with (go_at_call 15; refine (hSp _).mono ?_; rintro e w2 ⟨rfl, k2⟩; replace k2 : Hid (Keep w w2) := k2)
  all_goals
    go_ret3
    exact ⟨rfl, by first | exact k2.out.alloc _ | exact k2.out⟩
set_option maxRecDepth 100000 in
set_option maxHeartbeats 2000000 in
theorem rDec_bad_B_true (s : List UInt8) (w : World) (hs : s.length ≤ 4096) (hng : pNg s = true) (hK : 2 < s.length) (c : Nat) (hc : (s.getD 1 0).toNat = c) (hi : c ≠ 105) (hn : c ≠ 110) (hz : c ≠ 48) (x0 x1 x2 : Bool) (x3 x4 : Int) (x5 ng hx : Bool) (wh pt pw : List UInt8) (at' : Nat)
    (hSp : ∀ wx, Calls Tryd.prog 15 #[.string ⟨s.toArray⟩] wx fun e w' => e = .returned (.tuple #[.agg (txt x0 x1 x2 x3 x4 x5 ng hx wh pt pw), .int .i64 (at' : Int)]) ∧ Keep wx w') :
    Calls Tryd.prog 7 #[.string ⟨s.toArray⟩] w fun e w' => e = .returned (.tuple #[.int .i64 0, .int .i64 40, .int .i64 (at' : Int)]) ∧ Keep w w' := by
  have s1 : (ByteArray.mk s.toArray).size = s.length := sz_mk s
  have hix0 : ∀ wx, (Instr.index 9 (.string ⟨s.toArray⟩) (.int .i64 0)).run Tryd.prog wx = .ok (.int .u8 ((s.getD 0 0).toNat : Nat)) wx := fun wx => run_ix s 0 (by omega) wx
  obtain ⟨c0, hc0⟩ : ∃ c0, (s.getD 0 0).toNat = c0 := ⟨_, rfl⟩
  have hcb : ((c0 : Int) == 45) = true := by
    have h1 := ng_of (s := s) (by omega)
    rw [hng, hc0] at h1
    exact eqI (of_decide_eq_true h1.symm)
  rw [hc0] at hix0
  have hix1 : ∀ wx, (Instr.index 9 (.string ⟨s.toArray⟩) (.int .i64 1)).run Tryd.prog wx = .ok (.int .u8 ((s.getD 1 0).toNat : Nat)) wx := fun wx => run_ix s 1 (by omega) wx
  rw [hc] at hix1
  have hi2 : ((c : Int) == 105) = false := neI (by omega)
  have hn2 : ((c : Int) == 110) = false := neI (by omega)
  have hz2 : ((c : Int) == 48) = false := neI (by omega)
  obtain ⟨L, hL⟩ : ∃ L, s.length = L := ⟨_, rfl⟩
  rw [hL] at s1 hs hK
  have hL0 : (0 : Int) < (L : Int) := by omega
  have hL1 : (1 : Int) < (L : Int) := by omega
  have hL2 : (2 : Int) < (L : Int) := by omega
  unfold txt at hSp
  clear hng hL hc0 hc
  go_enter Tryd.func7, Tryd.ntmps7
  go_wp2_with (go_at_call 15; refine (hSp _).mono ?_; rintro e w2 ⟨rfl, k2⟩; replace k2 : Hid (Keep w w2) := k2)
  all_goals
    go_ret3
    exact ⟨rfl, by first | exact k2.out.alloc _ | exact k2.out⟩
set_option maxRecDepth 100000 in
set_option maxHeartbeats 2000000 in
theorem rDec_bad_B_false (s : List UInt8) (w : World) (hs : s.length ≤ 4096) (hng : pNg s = false) (hK : 1 < s.length) (c : Nat) (hc : (s.getD 0 0).toNat = c) (hi : c ≠ 105) (hn : c ≠ 110) (hz : c ≠ 48) (x0 x1 x2 : Bool) (x3 x4 : Int) (x5 ng hx : Bool) (wh pt pw : List UInt8) (at' : Nat)
    (hSp : ∀ wx, Calls Tryd.prog 15 #[.string ⟨s.toArray⟩] wx fun e w' => e = .returned (.tuple #[.agg (txt x0 x1 x2 x3 x4 x5 ng hx wh pt pw), .int .i64 (at' : Int)]) ∧ Keep wx w') :
    Calls Tryd.prog 7 #[.string ⟨s.toArray⟩] w fun e w' => e = .returned (.tuple #[.int .i64 0, .int .i64 40, .int .i64 (at' : Int)]) ∧ Keep w w' := by
  have s1 : (ByteArray.mk s.toArray).size = s.length := sz_mk s
  have hix0 : ∀ wx, (Instr.index 9 (.string ⟨s.toArray⟩) (.int .i64 0)).run Tryd.prog wx = .ok (.int .u8 ((s.getD 0 0).toNat : Nat)) wx := fun wx => run_ix s 0 (by omega) wx
  obtain ⟨c0, hc0⟩ : ∃ c0, (s.getD 0 0).toNat = c0 := ⟨_, rfl⟩
  have hcb : ((c0 : Int) == 45) = false := by
    have h1 := ng_of (s := s) (by omega)
    rw [hng, hc0] at h1
    exact neI (by have := of_decide_eq_false h1.symm; omega)
  rw [hc0] at hix0
  obtain rfl : c = c0 := by rw [← hc, hc0]
  have hi2 : ((c : Int) == 105) = false := neI (by omega)
  have hn2 : ((c : Int) == 110) = false := neI (by omega)
  have hz2 : ((c : Int) == 48) = false := neI (by omega)
  obtain ⟨L, hL⟩ : ∃ L, s.length = L := ⟨_, rfl⟩
  rw [hL] at s1 hs hK
  have hL0 : (0 : Int) < (L : Int) := by omega
  have hL1 : (0 : Int) < (L : Int) := by omega
  have hL2 : (1 : Int) < (L : Int) := by omega
  unfold txt at hSp
  clear hng hL hc0 hc
  go_enter Tryd.func7, Tryd.ntmps7
  go_wp2_with (go_at_call 15; refine (hSp _).mono ?_; rintro e w2 ⟨rfl, k2⟩; replace k2 : Hid (Keep w w2) := k2)
  all_goals
    go_ret3
    exact ⟨rfl, by first | exact k2.out.alloc _ | exact k2.out⟩
set_option maxRecDepth 100000 in
set_option maxHeartbeats 2000000 in
theorem rDec_bad_C_true (s : List UInt8) (w : World) (hs : s.length ≤ 4096) (hng : pNg s = true) (hK : 2 < s.length) (hc : (s.getD 1 0).toNat = 48) (d : Nat) (hd : (s.getD 2 0).toNat = d) (hz : d ≠ 120) (x0 x1 x2 : Bool) (x3 x4 : Int) (x5 ng hx : Bool) (wh pt pw : List UInt8) (at' : Nat)
    (hSp : ∀ wx, Calls Tryd.prog 15 #[.string ⟨s.toArray⟩] wx fun e w' => e = .returned (.tuple #[.agg (txt x0 x1 x2 x3 x4 x5 ng hx wh pt pw), .int .i64 (at' : Int)]) ∧ Keep wx w') :
    Calls Tryd.prog 7 #[.string ⟨s.toArray⟩] w fun e w' => e = .returned (.tuple #[.int .i64 0, .int .i64 40, .int .i64 (at' : Int)]) ∧ Keep w w' := by
  have s1 : (ByteArray.mk s.toArray).size = s.length := sz_mk s
  have hix0 : ∀ wx, (Instr.index 9 (.string ⟨s.toArray⟩) (.int .i64 0)).run Tryd.prog wx = .ok (.int .u8 ((s.getD 0 0).toNat : Nat)) wx := fun wx => run_ix s 0 (by omega) wx
  obtain ⟨c0, hc0⟩ : ∃ c0, (s.getD 0 0).toNat = c0 := ⟨_, rfl⟩
  have hcb : ((c0 : Int) == 45) = true := by
    have h1 := ng_of (s := s) (by omega)
    rw [hng, hc0] at h1
    exact eqI (of_decide_eq_true h1.symm)
  rw [hc0] at hix0
  have hix1 : ∀ wx, (Instr.index 9 (.string ⟨s.toArray⟩) (.int .i64 1)).run Tryd.prog wx = .ok (.int .u8 ((s.getD 1 0).toNat : Nat)) wx := fun wx => run_ix s 1 (by omega) wx
  rw [hc] at hix1
  have hix2 : ∀ wx, (Instr.index 9 (.string ⟨s.toArray⟩) (.int .i64 2)).run Tryd.prog wx = .ok (.int .u8 ((s.getD 2 0).toNat : Nat)) wx := fun wx => run_ix s 2 (by omega) wx
  rw [hd] at hix2
  have hz2 : ((d : Int) == 120) = false := neI (by omega)
  obtain ⟨L, hL⟩ : ∃ L, s.length = L := ⟨_, rfl⟩
  rw [hL] at s1 hs hK
  have hL0 : (0 : Int) < (L : Int) := by omega
  have hL1 : (1 : Int) < (L : Int) := by omega
  have hL2 : (2 : Int) < (L : Int) := by omega
  unfold txt at hSp
  clear hng hL hc0 hc hd
  go_enter Tryd.func7, Tryd.ntmps7
  go_wp2_with (go_at_call 15; refine (hSp _).mono ?_; rintro e w2 ⟨rfl, k2⟩; replace k2 : Hid (Keep w w2) := k2)
  all_goals
    go_ret3
    exact ⟨rfl, by first | exact k2.out.alloc _ | exact k2.out⟩
set_option maxRecDepth 100000 in
set_option maxHeartbeats 2000000 in
theorem rDec_bad_C_false (s : List UInt8) (w : World) (hs : s.length ≤ 4096) (hng : pNg s = false) (hK : 1 < s.length) (hc : (s.getD 0 0).toNat = 48) (d : Nat) (hd : (s.getD 1 0).toNat = d) (hz : d ≠ 120) (x0 x1 x2 : Bool) (x3 x4 : Int) (x5 ng hx : Bool) (wh pt pw : List UInt8) (at' : Nat)
    (hSp : ∀ wx, Calls Tryd.prog 15 #[.string ⟨s.toArray⟩] wx fun e w' => e = .returned (.tuple #[.agg (txt x0 x1 x2 x3 x4 x5 ng hx wh pt pw), .int .i64 (at' : Int)]) ∧ Keep wx w') :
    Calls Tryd.prog 7 #[.string ⟨s.toArray⟩] w fun e w' => e = .returned (.tuple #[.int .i64 0, .int .i64 40, .int .i64 (at' : Int)]) ∧ Keep w w' := by
  have s1 : (ByteArray.mk s.toArray).size = s.length := sz_mk s
  have hix0 : ∀ wx, (Instr.index 9 (.string ⟨s.toArray⟩) (.int .i64 0)).run Tryd.prog wx = .ok (.int .u8 ((s.getD 0 0).toNat : Nat)) wx := fun wx => run_ix s 0 (by omega) wx
  obtain ⟨c0, hc0⟩ : ∃ c0, (s.getD 0 0).toNat = c0 := ⟨_, rfl⟩
  have hcb : ((c0 : Int) == 45) = false := by
    have h1 := ng_of (s := s) (by omega)
    rw [hng, hc0] at h1
    exact neI (by have := of_decide_eq_false h1.symm; omega)
  rw [hc0] at hix0
  obtain rfl : c0 = 48 := by rw [← hc0, hc]
  have hix2 : ∀ wx, (Instr.index 9 (.string ⟨s.toArray⟩) (.int .i64 1)).run Tryd.prog wx = .ok (.int .u8 ((s.getD 1 0).toNat : Nat)) wx := fun wx => run_ix s 1 (by omega) wx
  rw [hd] at hix2
  have hz2 : ((d : Int) == 120) = false := neI (by omega)
  obtain ⟨L, hL⟩ : ∃ L, s.length = L := ⟨_, rfl⟩
  rw [hL] at s1 hs hK
  have hL0 : (0 : Int) < (L : Int) := by omega
  have hL1 : (0 : Int) < (L : Int) := by omega
  have hL2 : (1 : Int) < (L : Int) := by omega
  unfold txt at hSp
  clear hng hL hc0 hc hd
  go_enter Tryd.func7, Tryd.ntmps7
  go_wp2_with (go_at_call 15; refine (hSp _).mono ?_; rintro e w2 ⟨rfl, k2⟩; replace k2 : Hid (Keep w w2) := k2)
  all_goals
    go_ret3
    exact ⟨rfl, by first | exact k2.out.alloc _ | exact k2.out⟩
end Go.Proofs.YtgciimjcdhallaaDoor
