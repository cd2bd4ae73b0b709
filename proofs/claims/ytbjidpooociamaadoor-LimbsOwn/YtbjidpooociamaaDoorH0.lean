import Derived.Test.YtbjidpooociamaaDoorMath
set_option linter.unusedVariables false
set_option linter.unusedSimpArgs false
namespace Go.Proofs.YtbjidpooociamaaDoor
/-- A combination of two naturals, its sign by the number of steps. -/
def Ri (odd : Bool) (u d : Nat) (a b : Int) : Int := if odd then u * a - d * b else d * b - u * a
theorem Ri_lin (odd : Bool) (u d : Nat) (x y S p q : Int) : Ri odd u d (x * S + p) (y * S + q) = Ri odd u d x y * S + Ri odd u d p q := by
  cases odd <;> simp only [Ri] <;> grind
theorem Ri_next (odd : Bool) (u1 u2 d1 d2 q : Nat) (a b : Int) : Ri odd (u1 + q * u2) (d1 + q * d2) a b = Ri odd u1 d1 a b - q * Ri (!odd) u2 d2 a b := by
  cases odd <;> simp [Ri] <;> grind
theorem Ri_diff (odd : Bool) (u1 u2 d1 d2 : Nat) (a b : Int) : Ri odd (u1 + u2) (d1 + d2) a b = Ri odd u1 d1 a b - Ri (!odd) u2 d2 a b := by
  cases odd <;> simp [Ri] <;> grind
theorem Ri_err (odd : Bool) (u d p q T : Nat) (h : u ≤ d) (hp : p ≤ T) (hq : q ≤ T) : -((d * T : Nat) : Int) ≤ Ri odd u d p q := by
  have h1 : u * p ≤ d * T := Nat.mul_le_mul h hp
  have h2 : d * q ≤ d * T := Nat.mul_le_mul_left d hq
  have h1' : ((u : Int) * p) ≤ ((d * T : Nat) : Int) := by rw [← Int.natCast_mul]; exact Int.ofNat_le.2 h1
  have h2' : ((d : Int) * q) ≤ ((d * T : Nat) : Int) := by rw [← Int.natCast_mul]; exact Int.ofNat_le.2 h2
  have h3 : (0 : Int) ≤ (u : Int) * p := by rw [← Int.natCast_mul]; omega
  have h4 : (0 : Int) ≤ (d : Int) * q := by rw [← Int.natCast_mul]; omega
  cases odd <;> simp only [Ri] <;> simp only [Bool.false_eq_true, if_false, if_true] <;> omega
/-- What the highest bits tell of the whole. -/
theorem Ri_top (odd : Bool) (u d x y S p q r : Nat) (h : u ≤ d) (hp : p < S) (hq : q < S) (hr : Ri odd u d x y = (r : Int)) (hd : d ≤ r) : (d : Int) ≤ Ri odd u d ((x * S + p : Nat) : Int) ((y * S + q : Nat) : Int) := by
  obtain ⟨T, rfl⟩ : ∃ T, S = T + 1 := ⟨S - 1, by omega⟩
  have h1 := Ri_err odd u d p q T h (by omega) (by omega)
  have h2 := Ri_lin odd u d x y (T + 1 : Nat) p q
  have e1 : ((x * (T + 1) + p : Nat) : Int) = (x : Int) * ((T + 1 : Nat) : Int) + p := by simp
  have e2 : ((y * (T + 1) + q : Nat) : Int) = (y : Int) * ((T + 1 : Nat) : Int) + q := by simp
  rw [e1, e2, h2, hr]
  have h3 : d * (T + 1) ≤ r * (T + 1) := Nat.mul_le_mul_right _ hd
  have h4 : d * (T + 1) = d * T + d := by rw [Nat.mul_add, Nat.mul_one]
  have h5 : (r : Int) * ((T + 1 : Nat) : Int) = ((r * (T + 1) : Nat) : Int) := by simp
  rw [h5]
  omega
structure Leh (a b S x0 y0 : Nat) (x y : Nat) (u0 u1 u2 d0 d1 d2 : Nat) (odd : Bool) : Prop where
  xy : y ≤ x
  x62 : x < 4611686018427387904
  ex : Ri odd u1 d1 x0 y0 = (x : Int)
  ey : Ri (!odd) u2 d2 x0 y0 = (y : Int)
  ud2 : u2 ≤ d2
  ud1 : u1 + u2 ≤ d1 + d2
  d2p : 1 ≤ d2
  b0 : u0 < 1073741824 ∧ d0 < 1073741824
  b1 : u1 < 1073741824 ∧ d1 < 1073741824
  b2 : d2 < 1073741824
  gc : Int.gcd (Ri odd u1 d1 a b) (Ri (!odd) u2 d2 a b) = Nat.gcd a b
  le : (u1 = 1 ∧ d1 = 0 ∧ u2 = 0 ∧ d2 = 1) ∨ Ri odd u1 d1 a b ≤ (b : Int)
  good : d0 ≠ 0 → 0 ≤ Ri odd u1 d1 a b ∧ Ri odd u1 d1 a b < Ri (!odd) u0 d0 a b ∧ Ri (!odd) u0 d0 a b ≤ (b : Int) ∧ Int.gcd (Ri (!odd) u0 d0 a b) (Ri odd u1 d1 a b) = Nat.gcd a b
theorem Leh.start {a b S x0 y0 : Nat} (hxy : y0 ≤ x0) (hx : x0 < 4611686018427387904) : Leh a b S x0 y0 x0 y0 0 1 0 0 0 1 true := by
  refine ⟨hxy, hx, by simp [Ri], by simp [Ri], by omega, by omega, by omega, by omega, by omega, by omega, ?_, .inl (by omega), by omega⟩
  simp [Ri]
theorem gcd_sub (x y : Int) (q : Nat) : Int.gcd y (x - q * y) = Int.gcd x y := by
  rw [Int.gcd_comm y, Int.sub_eq_add_neg, Int.gcd_comm x y, Int.gcd_comm _ y]
  rw [show -(((q : Nat) : Int) * y) = y * (-(q : Int)) by rw [Int.mul_comm, Int.mul_neg]]
  exact Int.gcd_add_mul_left_right y x (-(q : Int))
theorem Leh.step {a b S x0 y0 p0 q0 x y u0 u1 u2 d0 d1 d2 : Nat} {odd : Bool} (h : Leh a b S x0 y0 x y u0 u1 u2 d0 d1 d2 odd) (ha : a = x0 * S + p0) (hb : b = y0 * S + q0) (hp : p0 < S) (hq : q0 < S)
    (c1 : d2 ≤ y) (c2 : d1 + d2 ≤ x - y) (c3 : d1 + x / y * d2 < 1073741824) : Leh a b S x0 y0 y (x - x / y * y) u1 u2 (u1 + x / y * u2) d1 d2 (d1 + x / y * d2) (!odd) := by
  have hy0 : 0 < y := by have := h.d2p; omega
  have hq1 : 1 ≤ x / y := (Nat.le_div_iff_mul_le hy0).2 (by have := h.xy; omega)
  have hmod : x - x / y * y = x % y := by have := Nat.div_add_mod x y; rw [Nat.mul_comm] at this; omega
  have hlt := Nat.mod_lt x hy0
  have hdm : (x : Int) - (x / y : Nat) * (y : Int) = ((x % y : Nat) : Int) := by
    have := Nat.div_add_mod x y
    have h2 : ((y * (x / y) + x % y : Nat) : Int) = (x : Int) := by rw [this]
    simp only [Int.natCast_add, Int.natCast_mul] at h2
    rw [Int.mul_comm]
    omega
  have t1 := Ri_top (!odd) u2 d2 x0 y0 S p0 q0 y h.ud2 hp hq h.ey c1
  have t2 := Ri_top odd (u1 + u2) (d1 + d2) x0 y0 S p0 q0 (x - y) h.ud1 hp hq (by rw [Ri_diff, h.ex, h.ey]; have := h.xy; omega) c2
  rw [← ha, ← hb] at t1 t2
  rw [Ri_diff] at t2
  have hd2 := h.d2p
  have hgc := h.gc
  have hle : Ri (!odd) u2 d2 a b ≤ (b : Int) := by
    rcases h.le with ⟨e1, e2, e3, e4⟩ | hle
    · have h1 := h.ex
      subst e1; subst e2; subst e3; subst e4
      cases odd
      · simp [Ri] at h1; omega
      · simp [Ri]
    · omega
  generalize hQ : x / y = Q at *
  have m1 : (Q - 1) * u2 ≤ (Q - 1) * d2 := Nat.mul_le_mul_left _ h.ud2
  have m2 : Q * u2 = u2 + (Q - 1) * u2 := by obtain ⟨R, rfl⟩ : ∃ R, Q = R + 1 := ⟨Q - 1, by omega⟩; simp [Nat.add_mul]; omega
  have m3 : Q * d2 = d2 + (Q - 1) * d2 := by obtain ⟨R, rfl⟩ : ∃ R, Q = R + 1 := ⟨Q - 1, by omega⟩; simp [Nat.add_mul]; omega
  have hb1 := h.b1
  have hud1 := h.ud1
  have hud2 := h.ud2
  have hb2 := h.b2
  refine ⟨by omega, by have := h.xy; have := h.x62; omega, h.ey, ?_, by omega, by omega, by omega, hb1, by omega, by omega, ?_, .inr hle, ?_⟩
  · rw [Bool.not_not, Ri_next, h.ex, h.ey, hdm, hmod]
  · rw [Bool.not_not, Ri_next, gcd_sub, hgc]
  · intro hd
    rw [Bool.not_not]
    rcases h.le with ⟨-, e2, -⟩ | hle'
    · omega
    · exact ⟨by omega, by omega, hle', hgc⟩
end Go.Proofs.YtbjidpooociamaaDoor
