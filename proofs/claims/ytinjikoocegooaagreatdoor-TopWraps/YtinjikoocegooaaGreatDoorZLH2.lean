import Derived.Test.YtinjikoocegooaaGreatDoorProg
import Derived.Test.YtinjikoocegooaaGreatDoorLC10
import Derived.Test.YtinjikoocegooaaGreatDoorShelf
import Derived.Test.YtinjikoocegooaaGreatDoorZLC6
import Derived.Test.YtinjikoocegooaaGreatDoorZLE3
import Derived.Test.YtinjikoocegooaaGreatDoorZLC18
import Derived.WalkKit
import Derived.WalkSpells
import Derived.WalkLawsBesides
import Derived.Laws.CopyOwn
import Derived.Deep.Draws
import Derived.Deep.QuietTactic
import Derived.BigQuiet
import Derived.Laws.MathBits
import Derived.Shelf.Small.Bits
import Derived.Laws.BytesArg
import Derived.Lib.OthersKept
import Derived.Deep.RegionWith
set_option linter.unusedVariables false
set_option linter.unusedSimpArgs false
namespace Go.Proofs.YtinjikoocegooaaGreatDoor.Li
/-- A combination of two naturals, its sign by the number of steps. -/
def Ri (odd : Bool) (u d : Nat) (a b : Int) : Int := if odd then u * a - d * b else d * b - u * a
theorem Ri_lin (odd : Bool) (u d : Nat) (x y S p q : Int) : Ri odd u d (x * S + p) (y * S + q) = Ri odd u d x y * S + Ri odd u d p q := by
  cases odd <;> simp only [Ri] <;> grind
theorem Ri_next (odd : Bool) (u1 u2 d1 d2 q : Nat) (a b : Int) : Ri odd (u1 + q * u2) (d1 + q * d2) a b = Ri odd u1 d1 a b - q * Ri (!odd) u2 d2 a b := by
  cases odd <;> simp [Ri] <;> grind
theorem Ri_diff (odd : Bool) (u1 u2 d1 d2 : Nat) (a b : Int) : Ri odd (u1 + u2) (d1 + d2) a b = Ri odd u1 d1 a b - Ri (!odd) u2 d2 a b := by
  cases odd <;> simp [Ri] <;> grind
theorem Ri_err (odd : Bool) (u d p q T : Nat) (h : u ≤ d) (hp : p ≤ T) (hq : q ≤ T) : -((d * T : Nat) : Int) ≤ Ri odd u d p q := by
  have h1 : u * p ≤ d * T := Nat.mul_le_mul h hp
  have h2 : d * q ≤ d * T := Nat.mul_le_mul_left d hq
  have h1' : ((u : Int) * p) ≤ ((d * T : Nat) : Int) := by rw [← Int.natCast_mul]; exact Int.ofNat_le.2 h1
  have h2' : ((d : Int) * q) ≤ ((d * T : Nat) : Int) := by rw [← Int.natCast_mul]; exact Int.ofNat_le.2 h2
  have h3 : (0 : Int) ≤ (u : Int) * p := by rw [← Int.natCast_mul]; omega
  have h4 : (0 : Int) ≤ (d : Int) * q := by rw [← Int.natCast_mul]; omega
  cases odd <;> simp only [Ri] <;> simp only [Bool.false_eq_true, if_false, if_true] <;> omega
/-- What the highest bits tell of the whole. -/
theorem Ri_top (odd : Bool) (u d x y S p q r : Nat) (h : u ≤ d) (hp : p < S) (hq : q < S) (hr : Ri odd u d x y = (r : Int)) (hd : d ≤ r) : (d : Int) ≤ Ri odd u d ((x * S + p : Nat) : Int) ((y * S + q : Nat) : Int) := by
  obtain ⟨T, rfl⟩ : ∃ T, S = T + 1 := ⟨S - 1, by omega⟩
  have h1 := Ri_err odd u d p q T h (by omega) (by omega)
  have h2 := Ri_lin odd u d x y (T + 1 : Nat) p q
  have e1 : ((x * (T + 1) + p : Nat) : Int) = (x : Int) * ((T + 1 : Nat) : Int) + p := by simp
  have e2 : ((y * (T + 1) + q : Nat) : Int) = (y : Int) * ((T + 1 : Nat) : Int) + q := by simp
  rw [e1, e2, h2, hr]
  have h3 : d * (T + 1) ≤ r * (T + 1) := Nat.mul_le_mul_right _ hd
  have h4 : d * (T + 1) = d * T + d := by rw [Nat.mul_add, Nat.mul_one]
  have h5 : (r : Int) * ((T + 1 : Nat) : Int) = ((r * (T + 1) : Nat) : Int) := by simp
  rw [h5]
  omega
structure Leh (a b S x0 y0 : Nat) (x y : Nat) (u0 u1 u2 d0 d1 d2 : Nat) (odd : Bool) : Prop where
  xy : y ≤ x
  x62 : x < 4611686018427387904
  ex : Ri odd u1 d1 x0 y0 = (x : Int)
  ey : Ri (!odd) u2 d2 x0 y0 = (y : Int)
  ud2 : u2 ≤ d2
  ud1 : u1 + u2 ≤ d1 + d2
  d2p : 1 ≤ d2
  b0 : u0 < 1073741824 ∧ d0 < 1073741824
  b1 : u1 < 1073741824 ∧ d1 < 1073741824
  b2 : d2 < 1073741824
  gc : Int.gcd (Ri odd u1 d1 a b) (Ri (!odd) u2 d2 a b) = Nat.gcd a b
  le : (u1 = 1 ∧ d1 = 0 ∧ u2 = 0 ∧ d2 = 1) ∨ Ri odd u1 d1 a b ≤ (b : Int)
  good : d0 ≠ 0 → 0 ≤ Ri odd u1 d1 a b ∧ Ri odd u1 d1 a b < Ri (!odd) u0 d0 a b ∧ Ri (!odd) u0 d0 a b ≤ (b : Int) ∧ Int.gcd (Ri (!odd) u0 d0 a b) (Ri odd u1 d1 a b) = Nat.gcd a b
theorem Leh.start {a b S x0 y0 : Nat} (hxy : y0 ≤ x0) (hx : x0 < 4611686018427387904) : Leh a b S x0 y0 x0 y0 0 1 0 0 0 1 true := by
  refine ⟨hxy, hx, by simp [Ri], by simp [Ri], by omega, by omega, by omega, by omega, by omega, by omega, ?_, .inl (by omega), by omega⟩
  simp [Ri]
theorem gcd_sub (x y : Int) (q : Nat) : Int.gcd y (x - q * y) = Int.gcd x y := by
  rw [Int.gcd_comm y, Int.sub_eq_add_neg, Int.gcd_comm x y, Int.gcd_comm _ y]
  rw [show -(((q : Nat) : Int) * y) = y * (-(q : Int)) by rw [Int.mul_comm, Int.mul_neg]]
  exact Int.gcd_add_mul_left_right y x (-(q : Int))
theorem Leh.step {a b S x0 y0 p0 q0 x y u0 u1 u2 d0 d1 d2 : Nat} {odd : Bool} (h : Leh a b S x0 y0 x y u0 u1 u2 d0 d1 d2 odd) (ha : a = x0 * S + p0) (hb : b = y0 * S + q0) (hp : p0 < S) (hq : q0 < S)
    (c1 : d2 ≤ y) (c2 : d1 + d2 ≤ x - y) (c3 : d1 + x / y * d2 < 1073741824) : Leh a b S x0 y0 y (x - x / y * y) u1 u2 (u1 + x / y * u2) d1 d2 (d1 + x / y * d2) (!odd) := by
  have hy0 : 0 < y := by have := h.d2p; omega
  have hq1 : 1 ≤ x / y := (Nat.le_div_iff_mul_le hy0).2 (by have := h.xy; omega)
  have hmod : x - x / y * y = x % y := by have := Nat.div_add_mod x y; rw [Nat.mul_comm] at this; omega
  have hlt := Nat.mod_lt x hy0
  have hdm : (x : Int) - (x / y : Nat) * (y : Int) = ((x % y : Nat) : Int) := by
    have := Nat.div_add_mod x y
    have h2 : ((y * (x / y) + x % y : Nat) : Int) = (x : Int) := by rw [this]
    simp only [Int.natCast_add, Int.natCast_mul] at h2
    rw [Int.mul_comm]
    omega
  have t1 := Ri_top (!odd) u2 d2 x0 y0 S p0 q0 y h.ud2 hp hq h.ey c1
  have t2 := Ri_top odd (u1 + u2) (d1 + d2) x0 y0 S p0 q0 (x - y) h.ud1 hp hq (by rw [Ri_diff, h.ex, h.ey]; have := h.xy; omega) c2
  rw [← ha, ← hb] at t1 t2
  rw [Ri_diff] at t2
  have hd2 := h.d2p
  have hgc := h.gc
  have hle : Ri (!odd) u2 d2 a b ≤ (b : Int) := by
    rcases h.le with ⟨e1, e2, e3, e4⟩ | hle
    · have h1 := h.ex
      subst e1; subst e2; subst e3; subst e4
      cases odd
      · simp [Ri] at h1; omega
      · simp [Ri]
    · omega
  generalize hQ : x / y = Q at *
  have m1 : (Q - 1) * u2 ≤ (Q - 1) * d2 := Nat.mul_le_mul_left _ h.ud2
  have m2 : Q * u2 = u2 + (Q - 1) * u2 := by obtain ⟨R, rfl⟩ : ∃ R, Q = R + 1 := ⟨Q - 1, by omega⟩; simp [Nat.add_mul]; omega
  have m3 : Q * d2 = d2 + (Q - 1) * d2 := by obtain ⟨R, rfl⟩ : ∃ R, Q = R + 1 := ⟨Q - 1, by omega⟩; simp [Nat.add_mul]; omega
  have hb1 := h.b1
  have hud1 := h.ud1
  have hud2 := h.ud2
  have hb2 := h.b2
  refine ⟨by omega, by have := h.xy; have := h.x62; omega, h.ey, ?_, by omega, by omega, by omega, hb1, by omega, by omega, ?_, .inr hle, ?_⟩
  · rw [Bool.not_not, Ri_next, h.ex, h.ey, hdm, hmod]
  · rw [Bool.not_not, Ri_next, gcd_sub, hgc]
  · intro hd
    rw [Bool.not_not]
    rcases h.le with ⟨-, e2, -⟩ | hle'
    · omega
    · exact ⟨by omega, by omega, hle', hgc⟩
end Go.Proofs.YtinjikoocegooaaGreatDoor.Li
set_option linter.unusedVariables false
set_option linter.unusedSimpArgs false
namespace Go.Proofs.YtinjikoocegooaaGreatDoor.Li
open Go.RowKit Lb
/-- Three words in a block of their own. -/
def Tri (w : World) (g x y z : Nat) : Prop := w.heap[g]? = some (.cells #[.int .u64 (x : Nat), .int .u64 (y : Nat), .int .u64 (z : Nat)] 137 (0, 0))
/-- Steps of Euclid's in a block of their own. -/
def Stp (w : World) (g p q r s : Nat) (t : Bool) : Prop := w.heap[g]? = some (.cells #[.int .u64 (p : Nat), .int .u64 (q : Nat), .int .u64 (r : Nat), .int .u64 (s : Nat), .bool t] 117 (0, 0))
theorem Tri.keep {w w' : World} {g x y z : Nat} (h : Tri w g x y z) (k : Keep w w') : Tri w' g x y z := by
  unfold Tri; rw [k.block g (Array.getElem?_eq_some_iff.1 h).1]; exact h
theorem Tri.cells {w : World} {g x y z : Nat} (h : Tri w g x y z) : w.cell? ⟨g, 0, none⟩ = some (.int .u64 (x : Nat)) ∧ w.cell? ⟨g, 1, none⟩ = some (.int .u64 (y : Nat)) ∧ w.cell? ⟨g, 2, none⟩ = some (.int .u64 (z : Nat)) := by
  refine ⟨?_, ?_, ?_⟩ <;> rw [cell_of_row w g _ _ 137 (0, 0) h] <;> rfl
theorem Tri.free {w : World} {g x y z : Nat} (h : Tri w g x y z) (j : Nat) : w.frozen? ⟨g, j, none⟩ = false := frozen_of_row w g j _ 137 h
theorem Tri.new (w : World) (x y z : Nat) : Tri (w.alloc (.cells #[.int .u64 (x : Nat), .int .u64 (y : Nat), .int .u64 (z : Nat)] 137)) w.heap.size x y z := heap_alloc_new w _
theorem Tri.set {w : World} {g x y z : Nat} (h : Tri w g x y z) (x' y' z' : Nat) : Tri (((w.setCell ⟨g, 0, none⟩ (.int .u64 (x' : Nat))).setCell ⟨g, 1, none⟩ (.int .u64 (y' : Nat))).setCell ⟨g, 2, none⟩ (.int .u64 (z' : Nat))) g x' y' z' := by
  have h0 := heap_setCell_same w g 0 _ 137 (.int .u64 (x' : Nat)) h
  have h1 := heap_setCell_same _ g 1 _ 137 (.int .u64 (y' : Nat)) h0
  have h2 := heap_setCell_same _ g 2 _ 137 (.int .u64 (z' : Nat)) h1
  unfold Tri
  rw [h2]
  simp
theorem Tri.mut {w w' : World} {g g' x y z : Nat} (h : Tri w g x y z) (k : Mut g' w w') (hn : g ≠ g') : Tri w' g x y z := by
  unfold Tri; rw [k.block g hn]; exact h
theorem Stp.keep {w w' : World} {g p q r s : Nat} {t : Bool} (h : Stp w g p q r s t) (k : Keep w w') : Stp w' g p q r s t := by
  unfold Stp; rw [k.block g (Array.getElem?_eq_some_iff.1 h).1]; exact h
theorem Stp.mut {w w' : World} {g g' p q r s : Nat} {t : Bool} (h : Stp w g p q r s t) (k : Mut g' w w') (hn : g ≠ g') : Stp w' g p q r s t := by
  unfold Stp; rw [k.block g hn]; exact h
theorem Stp.cells {w : World} {g p q r s : Nat} {t : Bool} (h : Stp w g p q r s t) : w.cell? ⟨g, 0, none⟩ = some (.int .u64 (p : Nat)) ∧ w.cell? ⟨g, 1, none⟩ = some (.int .u64 (q : Nat)) ∧ w.cell? ⟨g, 2, none⟩ = some (.int .u64 (r : Nat)) ∧ w.cell? ⟨g, 3, none⟩ = some (.int .u64 (s : Nat)) ∧ w.cell? ⟨g, 4, none⟩ = some (.bool t) := by
  refine ⟨?_, ?_, ?_, ?_, ?_⟩ <;> rw [cell_of_row w g _ _ 117 (0, 0) h] <;> rfl
theorem Stp.free {w : World} {g p q r s : Nat} {t : Bool} (h : Stp w g p q r s t) (j : Nat) : w.frozen? ⟨g, j, none⟩ = false := frozen_of_row w g j _ 117 h
theorem Stp.new (w : World) (p q r s : Nat) (t : Bool) : Stp (w.alloc (.cells #[.int .u64 (p : Nat), .int .u64 (q : Nat), .int .u64 (r : Nat), .int .u64 (s : Nat), .bool t] 117)) w.heap.size p q r s t := heap_alloc_new w _
theorem Stp.turn {w : World} {g p q r s : Nat} {t : Bool} (h : Stp w g p q r s t) (t' : Bool) : Stp (w.setCell ⟨g, 4, none⟩ (.bool t')) g p q r s t' := by
  have h0 := heap_setCell_same w g 4 _ 117 (.bool t') h
  unfold Stp
  rw [h0]
  simp
theorem fore_round {w wr : World} {g u0 u1 u2 d0 d1 d2 : Nat} {odd : Bool} (u0' u1' u2' d0' d1' d2' : Nat) (odd' : Bool) (hg : w.heap.size < g) (hU : Tri wr (g + 1) u0 u1 u2) (hV : Tri wr (g + 1 + 1) d0 d1 d2) (hS : Stp wr g 0 0 0 0 odd) (hR : Stp wr w.heap.size 0 0 0 0 false) (hk : Keep w wr) :
    ∃ W, W = (((((((wr.setCell ⟨g + 1, 0, none⟩ (.int .u64 (u0' : Nat))).setCell ⟨g + 1, 1, none⟩ (.int .u64 (u1' : Nat))).setCell ⟨g + 1, 2, none⟩ (.int .u64 (u2' : Nat))).setCell ⟨g + 1 + 1, 0, none⟩ (.int .u64 (d0' : Nat))).setCell ⟨g + 1 + 1, 1, none⟩ (.int .u64 (d1' : Nat))).setCell ⟨g + 1 + 1, 2, none⟩ (.int .u64 (d2' : Nat))).setCell ⟨g, 4, none⟩ (.bool odd')) ∧
    Tri W (g + 1) u0' u1' u2' ∧ Tri W (g + 1 + 1) d0' d1' d2' ∧ Stp W g 0 0 0 0 odd' ∧ Stp W w.heap.size 0 0 0 0 false ∧ Keep w W := by
  have m1 := (((Mut.refl (g + 1) wr).setCell 0 (.int .u64 (u0' : Nat))).setCell 1 (.int .u64 (u1' : Nat))).setCell 2 (.int .u64 (u2' : Nat))
  have a1 := hU.set u0' u1' u2'
  have a2 := hV.mut m1 (by omega)
  have a3 := hS.mut m1 (by omega)
  have a4 := hR.mut m1 (by omega)
  have a5 : Keep w _ := ((hk.setCell (p := ⟨g + 1, 0, none⟩) (by show _ ≤ g + 1; omega) (.int .u64 (u0' : Nat))).setCell (p := ⟨g + 1, 1, none⟩) (by show _ ≤ g + 1; omega) (.int .u64 (u1' : Nat))).setCell (p := ⟨g + 1, 2, none⟩) (by show _ ≤ g + 1; omega) (.int .u64 (u2' : Nat))
  generalize ((wr.setCell ⟨g + 1, 0, none⟩ (.int .u64 (u0' : Nat))).setCell ⟨g + 1, 1, none⟩ (.int .u64 (u1' : Nat))).setCell ⟨g + 1, 2, none⟩ (.int .u64 (u2' : Nat)) = w1 at *
  have m2 := (((Mut.refl (g + 1 + 1) w1).setCell 0 (.int .u64 (d0' : Nat))).setCell 1 (.int .u64 (d1' : Nat))).setCell 2 (.int .u64 (d2' : Nat))
  have b1 := a1.mut m2 (by omega)
  have b2 := a2.set d0' d1' d2'
  have b3 := a3.mut m2 (by omega)
  have b4 := a4.mut m2 (by omega)
  have b5 : Keep w _ := ((a5.setCell (p := ⟨g + 1 + 1, 0, none⟩) (by show _ ≤ g + 1 + 1; omega) (.int .u64 (d0' : Nat))).setCell (p := ⟨g + 1 + 1, 1, none⟩) (by show _ ≤ g + 1 + 1; omega) (.int .u64 (d1' : Nat))).setCell (p := ⟨g + 1 + 1, 2, none⟩) (by show _ ≤ g + 1 + 1; omega) (.int .u64 (d2' : Nat))
  generalize ((w1.setCell ⟨g + 1 + 1, 0, none⟩ (.int .u64 (d0' : Nat))).setCell ⟨g + 1 + 1, 1, none⟩ (.int .u64 (d1' : Nat))).setCell ⟨g + 1 + 1, 2, none⟩ (.int .u64 (d2' : Nat)) = w2 at *
  have m3 := (Mut.refl g w2).setCell 4 (.bool odd')
  exact ⟨_, rfl, b1.mut m3 (by omega), b2.mut m3 (by omega), b3.turn odd', b4.mut m3 (by omega), b5.setCell (by show _ ≤ g; omega) _⟩
/-- What is foreseen. -/
def Seen (a b u0 u1 d0 d1 : Nat) (odd : Bool) : Prop := u0 < 1073741824 ∧ d0 < 1073741824 ∧ u1 < 1073741824 ∧ d1 < 1073741824 ∧ (d0 ≠ 0 → 0 ≤ Ri odd u1 d1 a b ∧ Ri odd u1 d1 a b < Ri (!odd) u0 d0 a b ∧ Ri (!odd) u0 d0 a b ≤ (b : Int) ∧ Int.gcd (Ri (!odd) u0 d0 a b) (Ri odd u1 d1 a b) = Nat.gcd a b)
theorem top_low {l : List Nat} (hn : Nrm l) (h : val l < 4611686018427387904) : val (l.take 2) = val l := by
  rw [List.take_of_length_le (len_le_pow hn 2 (Nat.lt_trans h (by decide)))]
set_option maxRecDepth 100000 in
set_option maxHeartbeats 1600000 in
theorem foresee_any (a b : Option Addr) (ca cb : Nat) (la lb : List Nat) (w : World) (hca : la.length ≤ ca) (hcb : lb.length ≤ cb) (hla : la.length ≤ 70368744177664) (hlb : lb.length ≤ 70368744177664) (hra : Rd w a la) (hrb : Rd w b lb) (hma : Lim la) (hmb : Lim lb) (hab : val lb ≤ val la) (h62 : 62 ≤ lenB la) (hup : lenB la ≤ 2251799813685248) :
    Calls Tryz.prog 76 #[.slice a la.length ca, .slice b lb.length cb] w fun e w' => ∃ (u0 u1 d0 d1 : Nat) (odd : Bool), e = .returned (.agg #[.int .u64 (u0 : Nat), .int .u64 (u1 : Nat), .int .u64 (d0 : Nat), .int .u64 (d1 : Nat), .bool odd]) ∧ Seen (val la) (val lb) u0 u1 d0 d1 odd ∧ Keep w w' := by
  have hvl := val_lt_len la hma
  obtain ⟨n, hn⟩ : ∃ n, n + 62 = lenB la := ⟨lenB la - 62, by omega⟩
  have hni : (lenB la : Int) - 62 = (n : Int) := by omega
  have hnb : n ≤ 4503599627370496 := by omega
  obtain ⟨x0, hx0⟩ : ∃ x0, val la / 2 ^ n = x0 := ⟨_, rfl⟩
  obtain ⟨y0, hy0⟩ : ∃ y0, val lb / 2 ^ n = y0 := ⟨_, rfl⟩
  have hxy : y0 ≤ x0 := by rw [← hx0, ← hy0]; exact Nat.div_le_div_right hab
  have hxb : x0 < 4611686018427387904 := by
    rw [← hx0, Nat.div_lt_iff_lt_mul (Nat.pos_of_ne_zero (by simp)), show (4611686018427387904 : Nat) = 2 ^ 62 from rfl, ← Nat.pow_add, Nat.add_comm, hn]
    exact hvl
  have ha : val la = x0 * 2 ^ n + val la % 2 ^ n := by rw [← hx0, Nat.mul_comm]; exact (Nat.div_add_mod _ _).symm
  have hb : val lb = y0 * 2 ^ n + val lb % 2 ^ n := by rw [← hy0, Nat.mul_comm]; exact (Nat.div_add_mod _ _).symm
  have hp := Nat.mod_lt (val la) (show 0 < 2 ^ n from Nat.pos_of_ne_zero (by simp))
  have hq := Nat.mod_lt (val lb) (show 0 < 2 ^ n from Nat.pos_of_ne_zero (by simp))
  have cLen := fun wx (hk : Keep w wx) => Len_any a ca la wx hca hla (hra.keep hk) hma
  have cA := fun wx (hk : Keep w wx) => lowered_any a ca n la wx hca hla hnb (hra.keep hk) hma
  have cB := fun wx (hk : Keep w wx) => lowered_any b cb n lb wx hcb hlb hnb (hrb.keep hk) hmb
  rw [hx0] at cA
  rw [hy0] at cB
  have hleh : Leh (val la) (val lb) (2 ^ n) x0 y0 x0 y0 0 1 0 0 0 1 true := Leh.start hxy hxb
  generalize val la % 2 ^ n = p0 at *
  generalize val lb % 2 ^ n = q0 at *
  generalize 2 ^ n = S at *
  have Ha : Hid (val la = x0 * S + p0) := ha
  have Hb : Hid (val lb = y0 * S + q0) := hb
  generalize val la = A at *
  generalize val lb = B at *
  generalize lenB la = L at *
  clear hx0 hy0 ha hb hvl
  have hk0 : Keep w (w.alloc (.cells #[.int .u64 ((0 : Nat) : Int), .int .u64 ((0 : Nat) : Int), .int .u64 ((0 : Nat) : Int), .int .u64 ((0 : Nat) : Int), .bool false] 117)) := (Keep.refl w).alloc _
  have hs0 := Stp.new w 0 0 0 0 false
  go_enter Tryz.func76, Tryz.ntmps76
  go_wp2_with fail
  simp only [Int.ofNat_zero] at hk0
  generalize w.alloc _ = w0 at hk0 hs0 ⊢
  refine (cLen _ hk0).mono ?_
  rintro e w1 ⟨rfl, d1⟩
  have hk1 := hk0.trans d1.keep
  have hs1 := hs0.keep d1.keep
  clear cLen
  go_wp2_with fail
  refine (cA _ hk1).mono ?_
  rintro e w2 ⟨v2, rfl, n2, k2⟩
  have hk2 := hk1.trans k2
  have hs2 := hs1.keep k2
  obtain ⟨a2, c2, l2, rfl, hc2, r2, m2, p2, e2, -⟩ := n2.shape
  have hl2 := low64_any a2 c2 l2 w2 (by have := len_le_pow p2 2 (by rw [e2]; exact Nat.lt_trans hxb (by decide)); omega) r2 m2
  rw [top_low p2 (by omega), e2] at hl2
  clear cA e2
  go_wp2_with fail
  refine hl2.mono ?_
  rintro e w3 ⟨rfl, rfl⟩
  go_wp2_with fail
  refine (cB _ hk2).mono ?_
  rintro e w4 ⟨v4, rfl, n4, k4⟩
  have hk4 := hk2.trans k4
  have hs4 := hs2.keep k4
  obtain ⟨a4, c4, l4, rfl, hc4, r4, m4, p4, e4, -⟩ := n4.shape
  have hl4 := low64_any a4 c4 l4 w4 (by have := len_le_pow p4 2 (by rw [e4]; exact Nat.lt_of_le_of_lt hxy (Nat.lt_trans hxb (by decide))); omega) r4 m4
  rw [top_low p4 (by omega), e4] at hl4
  clear cB e4
  go_wp2_with fail
  refine hl4.mono ?_
  rintro e w5 ⟨rfl, rfl⟩
  clear hl2 hl4 n2 n4 r2 r4 m2 m4 p2 p4 hc2 hc4
  go_wp2_with fail
  have hS : Stp (w5.alloc (.cells #[.int .u64 ((0 : Nat) : Int), .int .u64 ((0 : Nat) : Int), .int .u64 ((0 : Nat) : Int), .int .u64 ((0 : Nat) : Int), .bool true] 117)) w5.heap.size 0 0 0 0 true := Stp.new w5 0 0 0 0 true
  have hk5 : Keep w5 (w5.alloc (.cells #[.int .u64 ((0 : Nat) : Int), .int .u64 ((0 : Nat) : Int), .int .u64 ((0 : Nat) : Int), .int .u64 ((0 : Nat) : Int), .bool true] 117)) := (Keep.refl _).alloc _
  have hz5 : (w5.alloc (.cells #[.int .u64 ((0 : Nat) : Int), .int .u64 ((0 : Nat) : Int), .int .u64 ((0 : Nat) : Int), .int .u64 ((0 : Nat) : Int), .bool true] 117)).heap.size = w5.heap.size + 1 := by simp
  simp only [Int.ofNat_zero] at hS hk5 hz5
  generalize w5.alloc _ = w6 at hS hk5 hz5 ⊢
  have hU := Tri.new w6 0 1 0
  have hk6 : Keep w6 (w6.alloc (.cells #[.int .u64 ((0 : Nat) : Int), .int .u64 ((1 : Nat) : Int), .int .u64 ((0 : Nat) : Int)] 137)) := (Keep.refl _).alloc _
  have hz6 : (w6.alloc (.cells #[.int .u64 ((0 : Nat) : Int), .int .u64 ((1 : Nat) : Int), .int .u64 ((0 : Nat) : Int)] 137)).heap.size = w5.heap.size + 1 + 1 := by simp [hz5]
  simp only [Int.ofNat_zero, Int.ofNat_one] at hU hk6 hz6
  generalize w6.alloc _ = w7 at hU hk6 hz6 ⊢
  have hV := Tri.new w7 0 0 1
  have hk7 : Keep w7 (w7.alloc (.cells #[.int .u64 ((0 : Nat) : Int), .int .u64 ((0 : Nat) : Int), .int .u64 ((1 : Nat) : Int)] 137)) := (Keep.refl _).alloc _
  simp only [Int.ofNat_zero, Int.ofNat_one] at hV hk7
  generalize w7.alloc _ = w8 at hV hk7 ⊢
  rw [hz5] at hU
  rw [hz6] at hV
  have hU := hU.keep hk7
  have hS := (hS.keep hk6).keep hk7
  have hs8 := ((hs4.keep hk5).keep hk6).keep hk7
  have hk8 := ((hk4.trans hk5).trans hk6).trans hk7
  have hg : w.heap.size < w5.heap.size := by
    have := (Array.getElem?_eq_some_iff.1 hs4).1
    exact this
  clear hk0 hk1 hk2 hk4 hk5 hk6 hk7 hs0 hs1 hs2 hs4 hz5 hz6 k2 k4 d1
  generalize w5.heap.size = g at *
  go_loopw [6, 7] (fun xv yv wr => ∃ (x y u0 u1 u2 d0 d1 d2 : Nat) (odd : Bool), xv = .int .u64 (x : Nat) ∧ yv = .int .u64 (y : Nat) ∧ Leh A B S x0 y0 x y u0 u1 u2 d0 d1 d2 odd ∧ Tri wr (g + 1) u0 u1 u2 ∧ Tri wr (g + 1 + 1) d0 d1 d2 ∧ Stp wr g 0 0 0 0 odd ∧ Stp wr w.heap.size 0 0 0 0 false ∧ Keep w wr) (fun _ y _ => (intOf y).toNat)
  case atStart => exact ⟨x0, y0, 0, 1, 0, 0, 0, 1, true, rfl, rfl, hleh, hU, hV, hS, hs8, hk8⟩
  case round =>
    obtain ⟨x, y, u0, u1, u2, d0, d1, d2, odd, rfl, rfl, hL, hU, hV, hS, hR, hkp⟩ := hrel
    have hend : Seen A B u0 u1 d0 d1 odd := ⟨hL.b0.1, hL.b0.2, hL.b1.1, hL.b1.2, hL.good⟩
    obtain ⟨cu0, cu1, cu2⟩ := hU.cells
    obtain ⟨cv0, cv1, cv2⟩ := hV.cells
    obtain ⟨cs0, cs1, cs2, cs3, cs4⟩ := hS.cells
    have fs0 := hS.free 0
    have fs1 := hS.free 1
    have fs2 := hS.free 2
    have fs3 := hS.free 3
    have fs4 := hS.free 4
    obtain ⟨cr0, cr1, cr2, cr3, cr4⟩ := hR.cells
    have fr0 := hR.free 0
    have fr1 := hR.free 1
    have fr2 := hR.free 2
    have fr3 := hR.free 3
    have fr4 := hR.free 4
    have fu0 := hU.free 0
    have fu1 := hU.free 1
    have fu2 := hU.free 2
    have fv0 := hV.free 0
    have fv1 := hV.free 1
    have fv2 := hV.free 2
    by_cases c1 : d2 ≤ y
    · have hg1 : decide ((d2 : Int) ≤ (y : Int)) = true := by simp; omega
      obtain ⟨z, hz⟩ : ∃ z, x - y = z := ⟨_, rfl⟩
      have hxy' := hL.xy
      have hx62 := hL.x62
      have hdp := hL.d2p
      have hzi : (x : Int) - (y : Int) = (z : Int) := by omega
      have hb1 := hL.b1
      have hb2 := hL.b2
      have hud := hL.ud2
      by_cases c2 : d1 + d2 ≤ z
      · have hg2 : decide ((d1 : Int) + (d2 : Int) ≤ (z : Int)) = true := by simp; omega
        have hy0 : 0 < y := by omega
        obtain ⟨Q, hQ⟩ : ∃ Q, x / y = Q := ⟨_, rfl⟩
        have hQi : (x : Int) / (y : Int) = (Q : Int) := by rw [← hQ]; simp
        have hQy : Q * y ≤ x := by rw [← hQ]; exact Nat.div_mul_le_self x y
        have hQd : Q * d2 ≤ Q * y := Nat.mul_le_mul_left _ c1
        have hQu : Q * u2 ≤ Q * d2 := Nat.mul_le_mul_left _ hud
        have hQb : Q ≤ 4611686018427387904 := by have := Nat.le_mul_of_pos_right Q hy0; omega
        obtain ⟨nu, hnu⟩ : ∃ nu, u1 + Q * u2 = nu := ⟨_, rfl⟩
        obtain ⟨nd, hnd⟩ : ∃ nd, d1 + Q * d2 = nd := ⟨_, rfl⟩
        obtain ⟨m, hm⟩ : ∃ m, x - Q * y = m := ⟨_, rfl⟩
        have hlt : m < y := by
          have h1 := Nat.div_add_mod x y
          have h2 := Nat.mod_lt x hy0
          rw [hQ, Nat.mul_comm] at h1
          omega
        have HN : Hid (nd < 1073741824 → Leh A B S x0 y0 y m u1 u2 nu d1 d2 nd (!odd)) := by
          intro h3
          have h4 := hL.step Ha.out Hb.out hp hq c1 (by omega) (by rw [hQ, hnd]; exact h3)
          rw [hQ, hnu, hnd, hm] at h4
          exact h4
        have p1 : (Q : Int) * (u2 : Int) ≤ 4611686018427387904 := by rw [← Int.natCast_mul]; omega
        have p2 : 0 ≤ (Q : Int) * (u2 : Int) := by rw [← Int.natCast_mul]; omega
        have p3 : (Q : Int) * (d2 : Int) ≤ 4611686018427387904 := by rw [← Int.natCast_mul]; omega
        have p4 : 0 ≤ (Q : Int) * (d2 : Int) := by rw [← Int.natCast_mul]; omega
        have p5 : (Q : Int) * (y : Int) ≤ 4611686018427387904 := by rw [← Int.natCast_mul]; omega
        have p6 : 0 ≤ (Q : Int) * (y : Int) := by rw [← Int.natCast_mul]; omega
        have hnui : (u1 : Int) + (Q : Int) * (u2 : Int) = (nu : Int) := by rw [← hnu]; simp
        have hndi : (d1 : Int) + (Q : Int) * (d2 : Int) = (nd : Int) := by rw [← hnd]; simp
        have hmi : (x : Int) - (Q : Int) * (y : Int) = (m : Int) := by rw [← Int.natCast_mul]; omega
        have hnd62 : nd < 9223372036854775808 := by omega
        have hnu62 : nu < 9223372036854775808 := by omega
        clear hL hleh Ha Hb hp hq hQ hnu hnd hm hQy hQd hQu hz
        have q1 : IntKind.u64.wrap (Q : Int) = (Q : Int) := by rw [IntKind.wrap_u64]; omega
        have q2 : IntKind.u64.wrap ((Q : Int) * (u2 : Int)) = (Q : Int) * (u2 : Int) := by rw [IntKind.wrap_u64]; omega
        have q3 : IntKind.u64.wrap ((Q : Int) * (d2 : Int)) = (Q : Int) * (d2 : Int) := by rw [IntKind.wrap_u64]; omega
        have q4 : IntKind.u64.wrap ((u1 : Int) + (Q : Int) * (u2 : Int)) = (nu : Int) := by rw [IntKind.wrap_u64]; omega
        have q5 : IntKind.u64.wrap ((d1 : Int) + (Q : Int) * (d2 : Int)) = (nd : Int) := by rw [IntKind.wrap_u64]; omega
        go_wp2_with fail
        go_quiet (fail)
        clear q1 q2 q3 q4 q5
        have hkq : Keep w (wr.drewN nq) := hkp.drewN nq
        have hUq : Tri (wr.drewN nq) (g + 1) u0 u1 u2 := hU
        have hVq : Tri (wr.drewN nq) (g + 1 + 1) d0 d1 d2 := hV
        have hSq : Stp (wr.drewN nq) g 0 0 0 0 odd := hS
        have hRq : Stp (wr.drewN nq) w.heap.size 0 0 0 0 false := hR
        clear hU hV hS hR hkp cu0 cu1 cu2 cv0 cv1 cv2 cs0 cs1 cs2 cs3 cs4 fs0 fs1 fs2 fs3 fs4 cr0 cr1 cr2 cr3 cr4 fr0 fr1 fr2 fr3 fr4 fu0 fu1 fu2 fv0 fv1 fv2
        generalize wr.drewN nq = wr at hkq hUq hVq hSq hRq ⊢
        have hkp := hkq
        obtain ⟨cu0, cu1, cu2⟩ := hUq.cells
        obtain ⟨cv0, cv1, cv2⟩ := hVq.cells
        obtain ⟨cs0, cs1, cs2, cs3, cs4⟩ := hSq.cells
        obtain ⟨cr0, cr1, cr2, cr3, cr4⟩ := hRq.cells
        have fs0 := hSq.free 0
        have fs1 := hSq.free 1
        have fs2 := hSq.free 2
        have fs3 := hSq.free 3
        have fs4 := hSq.free 4
        have fr0 := hRq.free 0
        have fr1 := hRq.free 1
        have fr2 := hRq.free 2
        have fr3 := hRq.free 3
        have fr4 := hRq.free 4
        have fu0 := hUq.free 0
        have fu1 := hUq.free 1
        have fu2 := hUq.free 2
        have fv0 := hVq.free 0
        have fv1 := hVq.free 1
        have fv2 := hVq.free 2
        by_cases c3 : nd < 1073741824
        · have HL := HN.out c3
          have HLh : Hid (Leh A B S x0 y0 y m u1 u2 nu d1 d2 nd (!odd)) := HL
          have hg3 : decide (1073741824 ≤ (nd : Int)) = false := by simp; omega
          clear HL HN hkq
          go_simp
          go_wp2_with fail
          go_roundw
          case rel =>
            obtain ⟨W, rfl, h1, h2, h3, h4, h5⟩ := fore_round u1 u2 nu d1 d2 nd (!odd) hg hUq hVq hSq hRq hkp
            exact ⟨y, m, u1, u2, nu, d1, d2, nd, !odd, rfl, rfl, HLh.out, h1, h2, h3, h4, h5⟩
          case measure => simp [intOf]; omega
        · have hg3 : decide (1073741824 ≤ (nd : Int)) = true := by simp; omega
          clear HN hUq hVq hSq hRq hkq
          go_simp
          go_wp2_with fail
          refine bodyPost_ret (v := .agg #[.int .u64 (u0 : Nat), .int .u64 (u1 : Nat), .int .u64 (d0 : Nat), .int .u64 (d1 : Nat), .bool odd]) ?_ rfl ⟨u0, u1, d0, d1, odd, rfl, hend, ?_⟩
          · simp [results, Tryz.results76, go_sem, World.cell?_setCell_other, World.cell?_setCell_same, cr0, cr1, cr2, cr3, cr4]
          · exact ((((((((hkp.setCell (Nat.le_of_lt hg) _).setCell (Nat.le_of_lt hg) _).setCell (Nat.le_of_lt hg) _).setCell (Nat.le_of_lt hg) _).setCell (Nat.le_refl _) _).setCell (Nat.le_refl _) _).setCell (Nat.le_refl _) _).setCell (Nat.le_refl _) _).setCell (Nat.le_refl _) _
      · have hg2 : decide ((d1 : Int) + (d2 : Int) ≤ (z : Int)) = false := by simp; omega
        clear hL hU hV hS hR hleh Ha Hb hp hq
        go_wp2_with fail
        refine bodyPost_ret (v := .agg #[.int .u64 (u0 : Nat), .int .u64 (u1 : Nat), .int .u64 (d0 : Nat), .int .u64 (d1 : Nat), .bool odd]) ?_ rfl ⟨u0, u1, d0, d1, odd, rfl, hend, ?_⟩
        · simp [results, Tryz.results76, go_sem, World.cell?_setCell_other, World.cell?_setCell_same, cr0, cr1, cr2, cr3, cr4]
        · exact ((((((((hkp.setCell (Nat.le_of_lt hg) _).setCell (Nat.le_of_lt hg) _).setCell (Nat.le_of_lt hg) _).setCell (Nat.le_of_lt hg) _).setCell (Nat.le_refl _) _).setCell (Nat.le_refl _) _).setCell (Nat.le_refl _) _).setCell (Nat.le_refl _) _).setCell (Nat.le_refl _) _
    · have hg1 : decide ((d2 : Int) ≤ (y : Int)) = false := by simp; omega
      clear hL hU hV hS hR hleh Ha Hb hp hq
      go_wp2_with fail
      refine bodyPost_ret (v := .agg #[.int .u64 (u0 : Nat), .int .u64 (u1 : Nat), .int .u64 (d0 : Nat), .int .u64 (d1 : Nat), .bool odd]) ?_ rfl ⟨u0, u1, d0, d1, odd, rfl, hend, ?_⟩
      · simp [results, Tryz.results76, go_sem, World.cell?_setCell_other, World.cell?_setCell_same, cr0, cr1, cr2, cr3, cr4]
      · exact ((((((((hkp.setCell (Nat.le_of_lt hg) _).setCell (Nat.le_of_lt hg) _).setCell (Nat.le_of_lt hg) _).setCell (Nat.le_of_lt hg) _).setCell (Nat.le_refl _) _).setCell (Nat.le_refl _) _).setCell (Nat.le_refl _) _).setCell (Nat.le_refl _) _).setCell (Nat.le_refl _) _
end Go.Proofs.YtinjikoocegooaaGreatDoor.Li
