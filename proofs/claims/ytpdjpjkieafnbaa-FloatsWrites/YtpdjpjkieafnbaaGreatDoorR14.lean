import Derived.Test.YtpdjpjkieafnbaaGreatDoorR12
import Derived.Test.YtpdjpjkieafnbaaGreatDoorNC10
set_option linter.unusedVariables false
set_option linter.unusedSimpArgs false
namespace Go.Proofs.YtpdjpjkieafnbaaGreatDoor.Li
open Go.RowKit Lb Nr
theorem NB.le {N D x : Nat} (h : NB N D x) (hD : 0 < D) : x ≤ 9218868437227405312 := by
  rcases Nat.eq_zero_or_pos N with c | c
  · rw [h.1 c]; omega
  · obtain ⟨E, hE⟩ := exE c hD
    rw [h.2 c E hE]
    exact Nat.min_le_right _ _
/-- What a right decimal's text says: whole digits, and a power of ten. -/
def rdN (s : List UInt8) : Nat := nat (cWh s ++ cPt s)
def rdP (s : List UInt8) : Int := pwN (cNP s) (cDP s) - ((cPt s).length : Int)
theorem cWh_d {s : List UInt8} (h : cHx s = false) : allD (cWh s) := by
  unfold cWh
  rw [h, isX_fun]
  exact allD.while _
theorem cPt_d {s : List UInt8} (h : cHx s = false) : allD (cPt s) := by
  unfold cPt
  split
  · rw [h, isX_fun]
    exact allD.while _
  · intro b hb
    simp at hb
theorem cDP_d (s : List UInt8) : allD (cDP s) := by
  unfold cDP cpD
  split
  · split
    · exact allD.while _
    · intro b hb
      simp at hb
  · intro b hb
    simp at hb
theorem cl_all (s : List UInt8) : (cWh s ++ cPt s).length ≤ s.length ∧ (cDP s).length ≤ s.length := by
  refine ⟨?_, ?_⟩
  · have h := cK4_le s
    unfold cK4 cK3 at h
    rw [List.length_append]
    split at h
    · omega
    · rename_i hd
      have : cPt s = [] := by unfold cPt; rw [if_neg hd]
      rw [this, List.length_nil]
      omega
  · unfold cDP cpD
    split
    · split
      · have := (List.takeWhile_prefix (p := isD) (l := s.drop (cpJ s (cK4 s)))).length_le
        rw [List.length_drop] at this
        omega
      · simp
    · simp
theorem not_word {s : List UInt8} (h : cOk s = true) : s ≠ [110, 97, 110] ∧ s ≠ [105, 110, 102] ∧ s ≠ [45, 105, 110, 102] := by
  refine ⟨?_, ?_, ?_⟩
  all_goals
    intro e
    subst e
    exact absurd h (by decide)
set_option maxRecDepth 100000 in
set_option maxHeartbeats 2000000 in
theorem read_dec (s : List UInt8) (w : World) (hs : s.length ≤ 4096) (hok : cOk s = true) (hhx : cHx s = false) :
    Calls Tryz.prog 45 #[.agg #[.int .i64 52, .int .i64 2047, .int .i64 (-1074)], .string ⟨s.toArray⟩] w fun e w' =>
      ∃ x : Nat, e = .returned (.tuple #[.int .u64 ((x + sg (cNg s) : Nat) : Int), .int .i64 0, .int .i64 0]) ∧ NB (rdN s * 10 ^ (rdP s).toNat) (10 ^ (-(rdP s)).toNat) x ∧ Keep w w' := by
  have hC := fun wx => cut_any s wx hs
  obtain ⟨l1, l2⟩ := cl_all s
  have hA := fun wx => amount_dec (cNg s) (cNP s) (cWh s) (cPt s) (cDP s) ((cWh_d hhx).app (cPt_d hhx)) (cDP_d s) (by omega) (by omega) wx
  rw [hok, hhx] at hC
  obtain ⟨n1, n2, n3⟩ := not_word hok
  have hSg := fun wx => signBit_any wx
  have hsz : (ByteArray.mk s.toArray).size = s.length := sz_mk s
  have e0 : decide ((4096 : Int) < (s.length : Int)) = false := decide_eq_false (by omega)
  unfold rdN rdP
  generalize cWh s = wh at *
  generalize cPt s = pt at *
  generalize cNP s = np at *
  generalize cDP s = dp at *
  generalize cNg s = ng at *
  generalize cAt s = ca at *
  have m1 : (s == [110, 97, 110]) = false := by rw [beq_eq_false_iff_ne]; exact n1
  have m2 : (s == [105, 110, 102]) = false := by rw [beq_eq_false_iff_ne]; exact n2
  have m3 : (s == [45, 105, 110, 102]) = false := by rw [beq_eq_false_iff_ne]; exact n3
  clear n1 n2 n3 hok hhx l1 l2
  go_enter Tryz.func45, Tryz.ntmps45
  go_wp2_with fail
  refine (hC _).mono ?_
  rintro e w2 ⟨rfl, k2⟩
  have F2 := (Fm.new w).keep k2
  have K2 : Hid (Keep w w2) := ((Keep.refl w).alloc _).trans k2
  have hlt2 : w.heap.size < w2.heap.size := (Array.getElem?_eq_some_iff.1 F2).1
  obtain ⟨w3, hw3⟩ : ∃ w3, w2.alloc (.cells #[.bool ng, .bool false, .string ⟨wh.toArray⟩, .string ⟨pt.toArray⟩, .bool np, .string ⟨dp.toArray⟩] 129) = w3 := ⟨_, rfl⟩
  have k23 : Keep w2 w3 := by rw [← hw3]; exact (Keep.refl w2).alloc _
  have T3 : Sp w3 w2.heap.size #[.bool ng, .bool false, .string ⟨wh.toArray⟩, .string ⟨pt.toArray⟩, .bool np, .string ⟨dp.toArray⟩] := by rw [← hw3]; exact Sp.new w2 _
  have F3 := F2.keep k23
  obtain ⟨f0, f1, f2⟩ := F3.cells
  obtain ⟨t0, t1, t2, t3, t4, t5⟩ := T3.six
  have HF3 : Hid (Fm w3 w.heap.size) := F3
  have HT3 : Hid (Sp w3 w2.heap.size #[.bool ng, .bool false, .string ⟨wh.toArray⟩, .string ⟨pt.toArray⟩, .bool np, .string ⟨dp.toArray⟩]) := T3
  have K3 : Hid (Keep w w3) := K2.out.trans k23
  clear F2 F3 T3 k2 k23 hlt2 hC
  go_wp2_with fail
  refine (hA _).mono ?_
  rintro e w4 ⟨x, rfl, hx, k4⟩
  have hxl := hx.le (Nat.pow_pos (by omega))
  have HX : Hid (NB (nat (wh ++ pt) * 10 ^ (pwN np dp - (pt.length : Int)).toNat) (10 ^ (-(pwN np dp - (pt.length : Int))).toNat) x) := hx
  obtain ⟨g0, g1, g2⟩ := (HF3.out.keep k4).cells
  obtain ⟨u0, _⟩ := (HT3.out.keep k4).six
  have K4 : Hid (Keep w w4) := K3.out.trans k4
  have hor := or_sign x (by omega)
  clear hx k4 hA f0 f1 f2 t0 t1 t2 t3 t4 t5
  cases ng
  · go_wp2_with fail
    go_ret3
    exact ⟨x, rfl, HX.out, K4.out⟩
  · go_wp2_with fail
    refine (hSg _).mono ?_
    rintro e w5 ⟨rfl, k5⟩
    go_wp2_with fail
    go_ret3
    exact ⟨x, rfl, HX.out, K4.out.trans k5⟩
end Go.Proofs.YtpdjpjkieafnbaaGreatDoor.Li
set_option linter.unusedVariables false
set_option linter.unusedSimpArgs false
namespace Go.Proofs.YtpdjpjkieafnbaaGreatDoor.Li
open Go.RowKit Lb Nr
end Go.Proofs.YtpdjpjkieafnbaaGreatDoor.Li
