import Derived.Test.YtbjidpooociamaaDoorL1
namespace Go.Proofs.YtbjidpooociamaaDoor
open Go.RowKit Lb
theorem RD_pos {N D : Nat} (hD : D ≠ 0) : RD N D ≠ 0 := by
  unfold RD
  rw [if_neg hD]
  have h1 := Nat.gcd_le_right N (Nat.pos_of_ne_zero hD)
  have h2 := Nat.gcd_pos_of_pos_right N (Nat.pos_of_ne_zero hD)
  have := Nat.div_pos h1 h2
  omega
/-- Lowest terms stay. -/
theorem T_self (s : Bool) (N D : Nat) (hD : D ≠ 0) : RS (RS s N D) (RN N D) (RD N D) = RS s N D ∧ RN (RN N D) (RD N D) = RN N D ∧ RD (RN N D) (RD N D) = RD N D := by
  have h := T_says s N D hD
  exact T_one (RD_pos hD) hD h
theorem says_plus (sy sz : Bool) (ny dy nz dz : Nat) (hD : dy * dz ≠ 0) (s : Bool) (n d : Nat) (hs : RS (PG sy sz (ny * dz) (nz * dy)) (PN sy sz (ny * dz) (nz * dy)) (dy * dz) = s) (hn : n = RN (PN sy sz (ny * dz) (nz * dy)) (dy * dz)) (hd : d = RD (PN sy sz (ny * dz) (nz * dy)) (dy * dz)) :
    sg s n * ((dy : Int) * (dz : Int)) = (sg sy ny * (dz : Int) + sg sz nz * (dy : Int)) * (d : Int) := by
  have h := T_says (PG sy sz (ny * dz) (nz * dy)) (PN sy sz (ny * dz) (nz * dy)) (dy * dz) hD
  unfold Says at h
  rw [hs, ← hn, ← hd, PG_says, sg_by, sg_by] at h
  simpa using h
theorem says_times (sx sy : Bool) (nx dx ny dy : Nat) (hD : dx * dy ≠ 0) (s : Bool) (n d : Nat) (hs : RS (sx != sy) (nx * ny) (dx * dy) = s) (hn : n = RN (nx * ny) (dx * dy)) (hd : d = RD (nx * ny) (dx * dy)) :
    sg s n * ((dx : Int) * (dy : Int)) = sg sx nx * sg sy ny * (d : Int) := by
  have h := T_says (sx != sy) (nx * ny) (dx * dy) hD
  unfold Says at h
  rw [hs, ← hn, ← hd, sg_mul] at h
  simpa using h
/-- The two sides of the law of distribution. -/
theorem field_distr (sx sy sz : Bool) (nx dx ny dy nz dz : Nat) (hx : dx ≠ 0) (hy : dy ≠ 0) (hz : dz ≠ 0) (syz sxy sxz : Bool) (nyz dyz nxy dxy nxz dxz : Nat)
    (a1 : RS (PG sy sz (ny * dz) (nz * dy)) (PN sy sz (ny * dz) (nz * dy)) (dy * dz) = syz) (a2 : nyz = RN (PN sy sz (ny * dz) (nz * dy)) (dy * dz)) (a3 : dyz = RD (PN sy sz (ny * dz) (nz * dy)) (dy * dz))
    (b1 : RS (sx != sy) (nx * ny) (dx * dy) = sxy) (b2 : nxy = RN (nx * ny) (dx * dy)) (b3 : dxy = RD (nx * ny) (dx * dy))
    (c1 : RS (sx != sz) (nx * nz) (dx * dz) = sxz) (c2 : nxz = RN (nx * nz) (dx * dz)) (c3 : dxz = RD (nx * nz) (dx * dz)) :
    RS (sx != syz) (nx * nyz) (dx * dyz) = RS (PG sxy sxz (nxy * dxz) (nxz * dxy)) (PN sxy sxz (nxy * dxz) (nxz * dxy)) (dxy * dxz) ∧ RN (nx * nyz) (dx * dyz) = RN (PN sxy sxz (nxy * dxz) (nxz * dxy)) (dxy * dxz) ∧ RD (nx * nyz) (dx * dyz) = RD (PN sxy sxz (nxy * dxz) (nxz * dxy)) (dxy * dxz) := by
  have e1 := says_plus sy sz ny dy nz dz (Nat.mul_ne_zero hy hz) syz nyz dyz a1 a2 a3
  have e2 := says_times sx sy nx dx ny dy (Nat.mul_ne_zero hx hy) sxy nxy dxy b1 b2 b3
  have e3 := says_times sx sz nx dx nz dz (Nat.mul_ne_zero hx hz) sxz nxz dxz c1 c2 c3
  have k1 : dyz ≠ 0 := by rw [a3]; exact RD_pos (Nat.mul_ne_zero hy hz)
  have k2 : dxy ≠ 0 := by rw [b3]; exact RD_pos (Nat.mul_ne_zero hx hy)
  have k3 : dxz ≠ 0 := by rw [c3]; exact RD_pos (Nat.mul_ne_zero hx hz)
  refine T_one (Nat.mul_ne_zero hx k1) (Nat.mul_ne_zero k2 k3) ?_
  rw [sg_mul, PG_says, sg_by, sg_by]
  have := distr (X := sg sx nx) (Y := sg sy ny) (Z := sg sz nz) (dx := dx) (dy := dy) (dz := dz) (by omega) (by omega) e1 e2 e3
  simpa using this
theorem field_again (sx sy : Bool) (nx dx ny dy : Nat) (hx : dx ≠ 0) (hy : dy ≠ 0) (ss : Bool) (ns ds : Nat)
    (a1 : RS (PG sx sy (nx * dy) (ny * dx)) (PN sx sy (nx * dy) (ny * dx)) (dx * dy) = ss) (a2 : ns = RN (PN sx sy (nx * dy) (ny * dx)) (dx * dy)) (a3 : ds = RD (PN sx sy (nx * dy) (ny * dx)) (dx * dy)) :
    (RS (PG ss (!sy) (ns * dy) (ny * ds)) (PN ss (!sy) (ns * dy) (ny * ds)) (ds * dy) = RS sx nx dx ∧ RN (PN ss (!sy) (ns * dy) (ny * ds)) (ds * dy) = RN nx dx ∧ RD (PN ss (!sy) (ns * dy) (ny * ds)) (ds * dy) = RD nx dx) ∧ rordV ss sx (ns * dx) (nx * ds) = rordV sy false (ny * 1) (0 * dy) := by
  have e1 := says_plus sx sy nx dx ny dy (Nat.mul_ne_zero hx hy) ss ns ds a1 a2 a3
  have k1 : ds ≠ 0 := by rw [a3]; exact RD_pos (Nat.mul_ne_zero hx hy)
  constructor
  · refine T_one (Nat.mul_ne_zero k1 hy) hx ?_
    rw [PG_says, sg_by, sg_by, sg_not]
    have := again e1
    have l : sg ss ns * (dy : Int) + -sg sy ny * (ds : Int) = sg ss ns * (dy : Int) - sg sy ny * (ds : Int) := by rw [Int.neg_mul]; omega
    rw [l, this]
    simp
  · rw [rord_sgn, rord_sgn, sg_by, sg_by, Nat.mul_one, Nat.zero_mul]
    have hz : sg false 0 = 0 := rfl
    rw [hz, Int.sub_zero]
    refine sgn_one (p := (dy : Int)) (q := (dx : Int) * (ds : Int)) (by omega) (Int.mul_pos (by omega) (by omega)) ?_
    grind
theorem field_back (sx sy : Bool) (nx dx ny dy : Nat) (hx : dx ≠ 0) (hy : dy ≠ 0) (hn : ny ≠ 0) (sq : Bool) (nq dq : Nat)
    (a1 : RS (sx != sy) (nx * dy) (dx * ny) = sq) (a2 : nq = RN (nx * dy) (dx * ny)) (a3 : dq = RD (nx * dy) (dx * ny)) :
    RS (sq != sy) (nq * ny) (dq * dy) = RS sx nx dx ∧ RN (nq * ny) (dq * dy) = RN nx dx ∧ RD (nq * ny) (dq * dy) = RD nx dx := by
  have h := T_says (sx != sy) (nx * dy) (dx * ny) (Nat.mul_ne_zero hx hn)
  unfold Says at h
  rw [a1, ← a2, ← a3, sg_mul] at h
  have k1 : dq ≠ 0 := by rw [a3]; exact RD_pos (Nat.mul_ne_zero hx hn)
  refine T_one (Nat.mul_ne_zero k1 hy) hx ?_
  rw [sg_mul]
  have e1 : sg sy ny = (if sy then -1 else 1) * (ny : Int) := by unfold sg; split <;> omega
  have e2 : sg sy dy = (if sy then -1 else 1) * (dy : Int) := by unfold sg; split <;> omega
  have e3 : (if sy then (-1 : Int) else 1) * (if sy then -1 else 1) = 1 := by split <;> rfl
  have := back (Q := sg sq nq) (X := sg sx nx) (Y := sg sy ny) (dx := dx) (dy := dy) (dq := dq) (ny := ny) e3 e1 (by rw [← e2]; simpa using h)
  rw [this]
  simp
end Go.Proofs.YtbjidpooociamaaDoor
