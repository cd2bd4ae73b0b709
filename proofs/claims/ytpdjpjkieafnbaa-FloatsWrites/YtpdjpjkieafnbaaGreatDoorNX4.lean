import Derived.Test.YtpdjpjkieafnbaaGreatDoorNX3
import Derived.Test.YtpdjpjkieafnbaaGreatDoorR14
set_option linter.unusedVariables false
set_option linter.unusedSimpArgs false
namespace Go.Proofs.YtpdjpjkieafnbaaGreatDoor.Li.Nw
open Go.RowKit Lb Nr
theorem signBit_any (w : World) : Calls Tryz.prog 72 #[.agg #[.int .i64 23, .int .i64 255, .int .i64 (-149)]] w fun e w' => e = .returned (.int .u64 2147483648) ∧ Keep w w' := by
  go_enter Tryz.func72, Tryz.ntmps72
  go_wp2_with fail
  go_ret
  exact ⟨rfl, (Keep.refl w).alloc _⟩
def sg (ng : Bool) : Nat := if ng then 2147483648 else 0
theorem or_sign (x : Nat) (h : x < 2147483648) : bits .or .u64 (x : Int) 2147483648 = ((x + 2147483648 : Nat) : Int) := by
  rw [show (2147483648 : Int) = ((2147483648 : Nat) : Int) from rfl, u64_or_nat x _ (by omega) (by omega), Nat.or_comm]
  have := Nat.two_pow_add_eq_or_of_lt (i := 31) (b := x) h 1
  rw [Nat.mul_one, show (2 : Nat) ^ 31 = 2147483648 from rfl] at this
  rw [← this]
  omega
set_option maxRecDepth 100000 in
set_option maxHeartbeats 2000000 in
theorem read_dec (s : List UInt8) (w : World) (hs : s.length ≤ 4096) (hok : cOk s = true) (hhx : cHx s = false) :
    Calls Tryz.prog 45 #[.agg #[.int .i64 23, .int .i64 255, .int .i64 (-149)], .string ⟨s.toArray⟩] w fun e w' =>
      ∃ x : Nat, e = .returned (.tuple #[.int .u64 ((x + sg (cNg s) : Nat) : Int), .int .i64 0, .int .i64 0]) ∧ NB (rdN s * 10 ^ (rdP s).toNat) (10 ^ (-(rdP s)).toNat) x ∧ Keep w w' := by
  have hC := fun wx => cut_any s wx hs
  obtain ⟨l1, l2⟩ := cl_all s
  have hA := fun wx => amount_dec (cNg s) (cNP s) (cWh s) (cPt s) (cDP s) ((cWh_d hhx).app (cPt_d hhx)) (cDP_d s) (by omega) (by omega) wx
  rw [hok, hhx] at hC
  obtain ⟨n1, n2, n3⟩ := not_word hok
  have hSg := fun wx => signBit_any wx
  have hsz : (ByteArray.mk s.toArray).size = s.length := sz_mk s
  have e0 : decide ((4096 : Int) < (s.length : Int)) = false := decide_eq_false (by omega)
  unfold rdN rdP
  generalize cWh s = wh at *
  generalize cPt s = pt at *
  generalize cNP s = np at *
  generalize cDP s = dp at *
  generalize cNg s = ng at *
  generalize cAt s = ca at *
  have m1 : (s == [110, 97, 110]) = false := by rw [beq_eq_false_iff_ne]; exact n1
  have m2 : (s == [105, 110, 102]) = false := by rw [beq_eq_false_iff_ne]; exact n2
  have m3 : (s == [45, 105, 110, 102]) = false := by rw [beq_eq_false_iff_ne]; exact n3
  clear n1 n2 n3 hok hhx l1 l2
  go_enter Tryz.func45, Tryz.ntmps45
  go_wp2_with fail
  refine (hC _).mono ?_
  rintro e w2 ⟨rfl, k2⟩
  have F2 := (Fm.new w).keep k2
  have K2 : Hid (Keep w w2) := ((Keep.refl w).alloc _).trans k2
  have hlt2 : w.heap.size < w2.heap.size := (Array.getElem?_eq_some_iff.1 F2).1
  obtain ⟨w3, hw3⟩ : ∃ w3, w2.alloc (.cells #[.bool ng, .bool false, .string ⟨wh.toArray⟩, .string ⟨pt.toArray⟩, .bool np, .string ⟨dp.toArray⟩] 129) = w3 := ⟨_, rfl⟩
  have k23 : Keep w2 w3 := by rw [← hw3]; exact (Keep.refl w2).alloc _
  have T3 : Sp w3 w2.heap.size #[.bool ng, .bool false, .string ⟨wh.toArray⟩, .string ⟨pt.toArray⟩, .bool np, .string ⟨dp.toArray⟩] := by rw [← hw3]; exact Sp.new w2 _
  have F3 := F2.keep k23
  obtain ⟨f0, f1, f2⟩ := F3.cells
  obtain ⟨t0, t1, t2, t3, t4, t5⟩ := T3.six
  have HF3 : Hid (Fm w3 w.heap.size) := F3
  have HT3 : Hid (Sp w3 w2.heap.size #[.bool ng, .bool false, .string ⟨wh.toArray⟩, .string ⟨pt.toArray⟩, .bool np, .string ⟨dp.toArray⟩]) := T3
  have K3 : Hid (Keep w w3) := K2.out.trans k23
  clear F2 F3 T3 k2 k23 hlt2 hC
  go_wp2_with fail
  refine (hA _).mono ?_
  rintro e w4 ⟨x, rfl, hx, k4⟩
  have hxl := hx.le (Nat.pow_pos (by omega))
  have HX : Hid (NB (nat (wh ++ pt) * 10 ^ (pwN np dp - (pt.length : Int)).toNat) (10 ^ (-(pwN np dp - (pt.length : Int))).toNat) x) := hx
  obtain ⟨g0, g1, g2⟩ := (HF3.out.keep k4).cells
  obtain ⟨u0, _⟩ := (HT3.out.keep k4).six
  have K4 : Hid (Keep w w4) := K3.out.trans k4
  have hor := or_sign x (by omega)
  clear hx k4 hA f0 f1 f2 t0 t1 t2 t3 t4 t5
  cases ng
  · go_wp2_with fail
    go_ret3
    exact ⟨x, rfl, HX.out, K4.out⟩
  · go_wp2_with fail
    refine (hSg _).mono ?_
    rintro e w5 ⟨rfl, k5⟩
    go_wp2_with fail
    go_ret3
    exact ⟨x, rfl, HX.out, K4.out.trans k5⟩
end Go.Proofs.YtpdjpjkieafnbaaGreatDoor.Li.Nw
