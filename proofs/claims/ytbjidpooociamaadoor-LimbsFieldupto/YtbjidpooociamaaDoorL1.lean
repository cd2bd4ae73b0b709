import Derived.Test.YtbjidpooociamaaDoorK12
namespace Go.Proofs.YtbjidpooociamaaDoor
open Go.RowKit Lb
/-- Lowest terms are one. -/
theorem low_one (N D N' D' : Nat) (hD : 0 < D) (hD' : 0 < D') (h : N * D' = N' * D) : N / Nat.gcd N D = N' / Nat.gcd N' D' ∧ D / Nat.gcd N D = D' / Nat.gcd N' D' := by
  have g0 : 0 < Nat.gcd N D := Nat.gcd_pos_of_pos_right _ hD
  have g0' : 0 < Nat.gcd N' D' := Nat.gcd_pos_of_pos_right _ hD'
  have c := Nat.coprime_div_gcd_div_gcd g0
  have c' := Nat.coprime_div_gcd_div_gcd g0'
  have e1 := Nat.div_mul_cancel (Nat.gcd_dvd_left N D)
  have e2 := Nat.div_mul_cancel (Nat.gcd_dvd_right N D)
  have e3 := Nat.div_mul_cancel (Nat.gcd_dvd_left N' D')
  have e4 := Nat.div_mul_cancel (Nat.gcd_dvd_right N' D')
  generalize Nat.gcd N D = g at *
  generalize Nat.gcd N' D' = g' at *
  generalize N / g = n at *
  generalize D / g = d at *
  generalize N' / g' = n' at *
  generalize D' / g' = d' at *
  have hx : n * d' = n' * d := by
    have h1 : (g * g') * (n * d') = (g * g') * (n' * d) := by
      have l1 : (g * g') * (n * d') = (n * g) * (d' * g') := by grind
      have l2 : (g * g') * (n' * d) = (n' * g') * (d * g) := by grind
      rw [l1, l2, e1, e2, e3, e4, h]
    exact Nat.eq_of_mul_eq_mul_left (Nat.mul_pos g0 g0') h1
  have d1 : n ∣ n' := c.dvd_of_dvd_mul_right (hx ▸ Nat.dvd_mul_right n d')
  have d2 : n' ∣ n := c'.dvd_of_dvd_mul_right (hx ▸ Nat.dvd_mul_right n' d)
  have d3 : d ∣ d' := c.symm.dvd_of_dvd_mul_left (hx ▸ Nat.dvd_mul_left d n')
  have d4 : d' ∣ d := c'.symm.dvd_of_dvd_mul_left (hx ▸ Nat.dvd_mul_left d' n)
  exact ⟨Nat.dvd_antisymm d1 d2, Nat.dvd_antisymm d3 d4⟩
/-- A number with its sign. -/
def sg (s : Bool) (n : Nat) : Int := if s then -(n : Int) else n
theorem sg_abs (s : Bool) (n : Nat) : (sg s n).natAbs = n := by unfold sg; split <;> omega
/-- A quotient in its lowest terms hangs on its value alone. -/
theorem T_one {s s' : Bool} {N D N' D' : Nat} (hD : D ≠ 0) (hD' : D' ≠ 0) (h : sg s N * (D' : Int) = sg s' N' * (D : Int)) : RS s N D = RS s' N' D' ∧ RN N D = RN N' D' ∧ RD N D = RD N' D' := by
  have hn : N * D' = N' * D := by
    have := congrArg Int.natAbs h
    rw [Int.natAbs_mul, Int.natAbs_mul, sg_abs, sg_abs, Int.natAbs_natCast, Int.natAbs_natCast] at this
    exact this
  obtain ⟨l1, l2⟩ := low_one N D N' D' (by omega) (by omega) hn
  refine ⟨?_, by unfold RN; rw [if_neg hD, if_neg hD', l1], by unfold RD; rw [if_neg hD, if_neg hD', l2]⟩
  unfold RS
  by_cases h0 : N = 0
  · have h0' : N' = 0 := by
      rw [h0, Nat.zero_mul] at hn
      rcases Nat.mul_eq_zero.1 hn.symm with h1 | h1
      · exact h1
      · exact absurd h1 hD
    simp [h0, h0']
  · have h0' : N' ≠ 0 := by
      intro h1
      rw [h1, Nat.zero_mul] at hn
      rcases Nat.mul_eq_zero.1 hn with h2 | h2
      · exact h0 h2
      · exact hD' h2
    rw [if_neg (by omega), if_neg (by omega)]
    have p1 : 0 < (D : Int) := by omega
    have p2 : 0 < (D' : Int) := by omega
    have p3 : 0 < (N : Int) := by omega
    have p4 : 0 < (N' : Int) := by omega
    have q1 := Int.mul_pos p3 p2
    have q2 := Int.mul_pos p4 p1
    unfold sg at h
    cases s <;> cases s' <;> simp at h ⊢
    · rw [Int.neg_mul] at h; omega
    · rw [Int.neg_mul] at h; omega
/-- The terms say the value. -/
def Says (s : Bool) (n d : Nat) (p q : Int) : Prop := sg s n * q = p * d
theorem T_says (s : Bool) (N D : Nat) (hD : D ≠ 0) : Says (RS s N D) (RN N D) (RD N D) (sg s N) D := by
  have g0 : 0 < Nat.gcd N D := Nat.gcd_pos_of_pos_right _ (by omega)
  have e1 := Nat.div_mul_cancel (Nat.gcd_dvd_left N D)
  have e2 := Nat.div_mul_cancel (Nat.gcd_dvd_right N D)
  unfold Says RN RD RS
  rw [if_neg hD, if_neg hD]
  by_cases h0 : N = 0
  · simp [h0, sg]
  · rw [if_neg (by omega)]
    generalize Nat.gcd N D = g at *
    generalize N / g = n at *
    generalize D / g = d at *
    subst e1
    rw [← e2]
    unfold sg
    cases s <;> simp <;> grind
theorem PG_says (n1 n2 : Bool) (L R : Nat) : sg (PG n1 n2 L R) (PN n1 n2 L R) = sg n1 L + sg n2 R := by
  unfold PG PN sg
  cases n1 <;> cases n2 <;> simp <;> (repeat' split) <;> omega
theorem sg_mul (n1 n2 : Bool) (L R : Nat) : sg (n1 != n2) (L * R) = sg n1 L * sg n2 R := by
  unfold sg
  cases n1 <;> cases n2 <;> simp <;> grind
theorem sg_by (s : Bool) (n d : Nat) : sg s (n * d) = sg s n * (d : Int) := by
  unfold sg
  cases s <;> simp <;> grind
theorem sg_not (s : Bool) (n : Nat) : sg (!s) n = -sg s n := by
  unfold sg
  cases s <;> simp
/-- Products are distributed over sums. -/
theorem distr {X Y Z A B V : Int} {dx dy dz dyz dxy dxz : Int} (hy : dy ≠ 0) (hz : dz ≠ 0) (h1 : V * (dy * dz) = (Y * dz + Z * dy) * dyz) (h2 : A * (dx * dy) = X * Y * dxy) (h3 : B * (dx * dz) = X * Z * dxz) :
    X * V * (dxy * dxz) = (A * dxz + B * dxy) * (dx * dyz) := by
  have hne : dy * dz ≠ 0 := Int.mul_ne_zero hy hz
  refine Int.eq_of_mul_eq_mul_left hne ?_
  have l1 : dy * dz * (X * V * (dxy * dxz)) = X * (dxy * dxz) * (V * (dy * dz)) := by grind
  have l2 : dy * dz * ((A * dxz + B * dxy) * (dx * dyz)) = (A * (dx * dy)) * dz * dxz * dyz + (B * (dx * dz)) * dy * dxy * dyz := by grind
  rw [l1, l2, h1, h2, h3]
  grind
/-- What is added is taken away. -/
theorem again {S X Y : Int} {dx dy ds : Int} (h : S * (dx * dy) = (X * dy + Y * dx) * ds) : (S * dy - Y * ds) * dx = X * (ds * dy) := by grind
/-- What is divided is multiplied. -/
theorem back {Q X Y e : Int} {dx dy dq ny : Int} (he : e * e = 1) (hY : Y = e * ny) (h : Q * (dx * ny) = X * (e * dy) * dq) : Q * Y * dx = X * (dq * dy) := by
  subst hY
  have l1 : Q * (e * ny) * dx = e * (Q * (dx * ny)) := by grind
  rw [l1, h]
  have l2 : e * (X * (e * dy) * dq) = (e * e) * (X * (dq * dy)) := by grind
  rw [l2, he, Int.one_mul]
def sgnI (v : Int) : Int := if v = 0 then 0 else if v < 0 then -1 else 1
theorem rord_sgn (n1 n2 : Bool) (L R : Nat) : rordV n1 n2 L R = sgnI (sg n1 L - sg n2 R) := by
  unfold rordV PN PG sgnI sg
  cases n1 <;> cases n2 <;> simp <;> (repeat' split) <;> omega
theorem sgn_one {v v' p q : Int} (hp : 0 < p) (hq : 0 < q) (h : v * p = v' * q) : sgnI v = sgnI v' := by
  unfold sgnI
  rcases Int.lt_trichotomy v 0 with h1 | h1 | h1 <;> rcases Int.lt_trichotomy v' 0 with h2 | h2 | h2
  · rw [if_neg (by omega), if_pos h1, if_neg (by omega), if_pos h2]
  · rw [h2, Int.zero_mul] at h; have := Int.mul_neg_of_neg_of_pos h1 hp; omega
  · have := Int.mul_neg_of_neg_of_pos h1 hp; have := Int.mul_pos h2 hq; omega
  · rw [h1, Int.zero_mul] at h; have := Int.mul_neg_of_neg_of_pos h2 hq; omega
  · rw [if_pos h1, if_pos h2]
  · rw [h1, Int.zero_mul] at h; have := Int.mul_pos h2 hq; omega
  · have := Int.mul_pos h1 hp; have := Int.mul_neg_of_neg_of_pos h2 hq; omega
  · rw [h2, Int.zero_mul] at h; have := Int.mul_pos h1 hp; omega
  · rw [if_neg (by omega), if_neg (by omega), if_neg (by omega), if_neg (by omega)]
end Go.Proofs.YtbjidpooociamaaDoor
