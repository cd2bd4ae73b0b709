import Derived.Test.YtpdjpjkieafnbaaGreatDoorV0
import Derived.Test.YtpdjpjkieafnbaaGreatDoorO3
import Derived.Test.YtpdjpjkieafnbaaGreatDoorLK11
import Derived.Test.YtpdjpjkieafnbaaGreatDoorOO
import Derived.Test.YtpdjpjkieafnbaaGreatDoorNC10
import Derived.Test.YtpdjpjkieafnbaaGreatDoorH5
import Derived.Laws.OwnMore
set_option linter.unusedVariables false
set_option linter.unusedSimpArgs false
namespace Go.Proofs.YtpdjpjkieafnbaaGreatDoor.Li
open Nr Lb
/-- The amount in units of the least number. -/
theorem mg_parts (b : Nat) (hk : qB b = false) : Fo.mg (b % 9223372036854775808) = pM b * 2 ^ (pE b + 1074).toNat := by
  have e1 : b % 9223372036854775808 / 4503599627370496 = pField b := by unfold pField; omega
  have e2 : b % 9223372036854775808 % 4503599627370496 = pKept b := by unfold pKept; omega
  have hf : pField b < 2047 := by
    have : pField b < 2048 := Nat.mod_lt _ (by omega)
    have h2 : ¬ (pKind b = 3 ∨ pKind b = 4) := of_decide_eq_false hk
    unfold pKind at h2
    by_cases c : pField b = 2047
    · rw [if_pos c] at h2
      split at h2 <;> omega
    · omega
  have hkp : pKept b < 4503599627370496 := Nat.mod_lt _ (by omega)
  unfold Fo.mg
  rw [e1, e2]
  have e3 : b % 9223372036854775808 < 4503599627370496 ↔ pField b = 0 := by rw [← e1]; omega
  unfold pM pE
  by_cases c : pField b = 0
  · rw [if_pos (e3.2 c), if_neg (by omega), if_neg (by omega), if_neg (by omega), c]
    have : b % 9223372036854775808 = pKept b := by omega
    rw [this]
    by_cases d : 0 < pKept b
    · rw [if_pos d, show (-1074 + 1074 : Int).toNat = 0 from rfl, Nat.zero_sub]
    · have : pKept b = 0 := by omega
      rw [this, Nat.zero_mul, Nat.zero_mul]
  · rw [if_neg (fun k => c (e3.1 k)), if_pos (by omega), if_neg (by omega), if_pos (by omega)]
    rw [show (-1074 + (pField b : Int) - 1 + 1074).toNat = pField b - 1 by omega]
theorem qY_pos (b : Nat) : 0 < qY b := by
  unfold qY
  rw [Nat.one_mul]
  exact Nat.two_pow_pos _
theorem qXY (b : Nat) (hk : qB b = false) : qX b * Z74 = Fo.mg (b % 9223372036854775808) * qY b := by
  rw [mg_parts b hk]
  unfold qX qY
  have he := pE_in b
  obtain ⟨c, hc⟩ : ∃ c, c = 1074 := ⟨_, rfl⟩
  rw [← z_of hc, Nat.one_mul, Nat.mul_assoc, Nat.mul_assoc, ← Nat.pow_add, ← Nat.pow_add]
  congr 2
  omega
theorem low_cross {N D A B : Nat} (hD : 0 < D) (h : N * A = B * D) : N / Nat.gcd N D * A = B * (D / Nat.gcd N D) := by
  have hg : 0 < Nat.gcd N D := Nat.gcd_pos_of_pos_right _ hD
  have e1 : N = N / Nat.gcd N D * Nat.gcd N D := (Nat.div_mul_cancel (Nat.gcd_dvd_left _ _)).symm
  have e2 : D = D / Nat.gcd N D * Nat.gcd N D := (Nat.div_mul_cancel (Nat.gcd_dvd_right _ _)).symm
  generalize Nat.gcd N D = g at *
  generalize N / g = n at *
  generalize D / g = d at *
  apply Nat.eq_of_mul_eq_mul_right hg
  rw [Nat.mul_right_comm, ← e1, h, Nat.mul_assoc, ← e2]
theorem low_pos {N D : Nat} (hD : 0 < D) : 0 < D / Nat.gcd N D := by
  have hg : 0 < Nat.gcd N D := Nat.gcd_pos_of_pos_right _ hD
  exact Nat.div_pos (Nat.le_of_dvd hD (Nat.gcd_dvd_right _ _)) hg
/-- A number's quotient in units of the least number. -/
theorem qN_mg (b : Nat) (hk : qB b = false) : qN b * Z74 = Fo.mg (b % 9223372036854775808) * qD b ∧ 0 < qD b := by
  unfold qN qD
  rw [hk]
  exact ⟨low_cross (qY_pos b) (qXY b hk), low_pos (qY_pos b)⟩
theorem PN_scale (s t : Bool) (k L R : Nat) : PN s t (L * k) (R * k) = PN s t L R * k := by
  unfold PN
  by_cases c : s = t
  · rw [if_pos c, if_pos c, Nat.add_mul]
  · rw [if_neg c, if_neg c]
    by_cases d : R ≤ L
    · rw [if_pos d, if_pos (Nat.mul_le_mul_right k d), Nat.sub_mul]
    · rw [if_neg d]
      by_cases e : R * k ≤ L * k
      · rw [if_pos e]
        have h1 : L * k ≤ R * k := Nat.mul_le_mul_right k (by omega)
        rw [Nat.sub_mul]
        omega
      · rw [if_neg e, Nat.sub_mul]
/-- How far a quotient lies from a number, in units of the least number over the quotient's denominator. -/
def dl (rs : Bool) (rn rd b : Nat) : Nat := PN rs (!(qS b)) (rn * Z74) (Fo.mg (b % 9223372036854775808) * rd)
def awN (rs : Bool) (rn rd b : Nat) : Nat := RN (PN rs (!(qS b)) (rn * qD b) (qN b * rd)) (rd * qD b)
def awD (rs : Bool) (rn rd b : Nat) : Nat := RD (PN rs (!(qS b)) (rn * qD b) (qN b * rd)) (rd * qD b)
theorem aw_dl (rs : Bool) (rn rd b : Nat) (hk : qB b = false) (hd : 0 < rd) : awN rs rn rd b * (Z74 * rd) = dl rs rn rd b * awD rs rn rd b ∧ 0 < awD rs rn rd b := by
  obtain ⟨h1, h2⟩ := qN_mg b hk
  have hD : 0 < rd * qD b := Nat.mul_pos hd h2
  unfold awN awD dl RN RD
  rw [if_neg (by omega), if_neg (by omega)]
  refine ⟨?_, low_pos hD⟩
  apply low_cross hD
  have e : PN rs (!(qS b)) (rn * Z74) (Fo.mg (b % 9223372036854775808) * rd) * qD b = PN rs (!(qS b)) (rn * qD b) (qN b * rd) * Z74 := by
    rw [← PN_scale, ← PN_scale]
    congr 1
    · exact Nat.mul_right_comm _ _ _
    · rw [Nat.mul_right_comm, ← h1, Nat.mul_right_comm]
  calc PN rs (!(qS b)) (rn * qD b) (qN b * rd) * (Z74 * rd) = (PN rs (!(qS b)) (rn * qD b) (qN b * rd) * Z74) * rd := by rw [Nat.mul_assoc]
    _ = (PN rs (!(qS b)) (rn * Z74) (Fo.mg (b % 9223372036854775808) * rd) * qD b) * rd := by rw [e]
    _ = PN rs (!(qS b)) (rn * Z74) (Fo.mg (b % 9223372036854775808) * rd) * (rd * qD b) := by rw [Nat.mul_assoc, Nat.mul_comm (qD b)]
/-- Two distances compare as their units. -/
theorem aw_cmp (rs : Bool) (rn rd b c : Nat) (hb : qB b = false) (hc : qB c = false) (hd : 0 < rd) :
    (awN rs rn rd b * awD rs rn rd c ≤ awN rs rn rd c * awD rs rn rd b ↔ dl rs rn rd b ≤ dl rs rn rd c) := by
  obtain ⟨p1, p2⟩ := aw_dl rs rn rd b hb hd
  obtain ⟨q1, q2⟩ := aw_dl rs rn rd c hc hd
  have hP : 0 < Z74 * rd := Nat.mul_pos z_pos hd
  generalize Z74 * rd = P at *
  generalize awN rs rn rd b = a1 at *
  generalize awD rs rn rd b = a2 at *
  generalize awN rs rn rd c = b1 at *
  generalize awD rs rn rd c = b2 at *
  generalize dl rs rn rd b = x at *
  generalize dl rs rn rd c = y at *
  have e1 : a1 * b2 * P = x * (a2 * b2) := by rw [Nat.mul_right_comm, p1, Nat.mul_assoc]
  have e2 : b1 * a2 * P = y * (a2 * b2) := by rw [Nat.mul_right_comm, q1, Nat.mul_assoc, Nat.mul_comm b2]
  have hQ : 0 < a2 * b2 := Nat.mul_pos p2 q2
  constructor
  · intro h
    have := Nat.mul_le_mul_right P h
    rw [e1, e2] at this
    exact Nat.le_of_mul_le_mul_right this hQ
  · intro h
    have := Nat.mul_le_mul_right (a2 * b2) h
    rw [← e1, ← e2] at this
    exact Nat.le_of_mul_le_mul_right this hP
theorem PN_dN (s : Bool) (L R : Nat) : PN s (!s) L R = dN L R := by
  unfold PN dN
  rw [if_neg (by cases s <;> simp)]
  split <;> omega
theorem PN_sum (s : Bool) (L R : Nat) : PN s s L R = L + R := by
  unfold PN
  rw [if_pos rfl]
theorem PN_nought (s t : Bool) (L : Nat) : PN s t L 0 = dN L 0 := by
  unfold PN dN
  split
  · omega
  · rw [if_pos (by omega)]; omega
/-- Bits of an amount below the infinite ones. -/
theorem bits_of (x : Nat) (s : Bool) (hx : x < 9218868437227405312) : qB (x + sg s) = false ∧ (x + sg s) % 9223372036854775808 = x ∧ pNeg (x + sg s) = s ∧ (qX (x + sg s) = 0 ↔ x = 0) := by
  have hm : (x + sg s) % 9223372036854775808 = x := by
    unfold sg
    cases s
    · simp; omega
    · simp; omega
  have hq : qB (x + sg s) = false := by
    unfold qB
    apply decide_eq_false
    have hf : pField (x + sg s) < 2047 := by
      have : pField (x + sg s) = x / 4503599627370496 := by
        unfold pField sg
        cases s
        · simp; omega
        · simp; omega
      rw [this]
      omega
    unfold pKind
    rw [if_neg (by omega)]
    (repeat' split) <;> omega
  refine ⟨hq, hm, ?_, ?_⟩
  · unfold pNeg sg
    cases s
    · simp; omega
    · simp
  · have e := qXY (x + sg s) hq
    rw [hm] at e
    constructor
    · intro h
      rw [h, Nat.zero_mul] at e
      rcases Nat.eq_zero_or_pos x with c | c
      · exact c
      · have := Nat.mul_pos (Fo.mg_pos c) (qY_pos (x + sg s))
        omega
    · intro h
      rw [h, Fo.mg_zero, Nat.zero_mul] at e
      rcases Nat.mul_eq_zero.1 e with c | c
      · rw [h]; exact c
      · have := z_pos; omega
theorem dl_like (x : Nat) (s : Bool) (rn rd : Nat) (hx : x < 9218868437227405312) : dl s rn rd (x + sg s) = dN (rn * Z74) (Fo.mg x * rd) := by
  obtain ⟨h1, h2, h3, h4⟩ := bits_of x s hx
  unfold dl
  rw [h2]
  rcases Nat.eq_zero_or_pos x with c | c
  · rw [c, Fo.mg_zero, Nat.zero_mul]
    exact PN_nought _ _ _
  · have e : qS (x + sg s) = s := by
      unfold qS
      rw [h1, h3, decide_eq_false (fun g => by have := h4.1 g; omega)]
      simp
    rw [e]
    exact PN_dN _ _ _
theorem dl_other (x : Nat) (s : Bool) (rn rd : Nat) (hx : x < 9218868437227405312) (h0 : 0 < x) : dl s rn rd (x + sg (!s)) = rn * Z74 + Fo.mg x * rd := by
  obtain ⟨h1, h2, h3, h4⟩ := bits_of x (!s) hx
  have e : qS (x + sg (!s)) = !s := by
    unfold qS
    rw [h1, h3, decide_eq_false (fun g => by have := h4.1 g; omega)]
    simp
  unfold dl
  rw [h2, e, Bool.not_not]
  exact PN_sum _ _ _
/-- What is asked of a neighbour's order. -/
def GdN (s : Bool) (rn rd b c : Nat) : Prop := awN s rn rd b * awD s rn rd c ≤ awN s rn rd c * awD s rn rd b ∧ (awN s rn rd c * awD s rn rd b ≤ awN s rn rd b * awD s rn rd c → b % 2 = 0)
theorem par_of (x : Nat) (s : Bool) : (x + sg s) % 2 = x % 2 := by
  unfold sg
  cases s
  · simp
  · simp; omega
theorem gd_up {s : Bool} {rn rd x : Nat} (hd : 0 < rd) (h : NB rn rd x) (hx : x + 1 < 9218868437227405312) : GdN s rn rd (x + sg s) (x + 1 + sg s) := by
  have a1 := (bits_of x s (by omega)).1
  have a2 := (bits_of (x + 1) s hx).1
  obtain ⟨b1, b2⟩ := near_up hd h (by omega)
  unfold GdN
  rw [aw_cmp s rn rd _ _ a1 a2 hd, aw_cmp s rn rd _ _ a2 a1 hd, dl_like x s rn rd (by omega), dl_like (x + 1) s rn rd hx, par_of]
  exact ⟨b1, fun g => b2 (Nat.le_antisymm b1 g)⟩
theorem gd_down {s : Bool} {rn rd x : Nat} (hd : 0 < rd) (h : NB rn rd x) (hx : x < 9218868437227405312) (h0 : 0 < x) : GdN s rn rd (x + sg s) (x - 1 + sg s) := by
  have a1 := (bits_of x s (by omega)).1
  have a2 := (bits_of (x - 1) s (by omega)).1
  obtain ⟨b1, b2⟩ := near_down hd h hx h0
  unfold GdN
  rw [aw_cmp s rn rd _ _ a1 a2 hd, aw_cmp s rn rd _ _ a2 a1 hd, dl_like x s rn rd (by omega), dl_like (x - 1) s rn rd (by omega), par_of]
  exact ⟨b1, fun g => b2 (Nat.le_antisymm b1 g)⟩
theorem gd_other {s : Bool} {rn rd : Nat} (hd : 0 < rd) : GdN s rn rd (0 + sg s) (1 + sg (!s)) := by
  have a1 := (bits_of 0 s (by omega)).1
  have a2 := (bits_of 1 (!s) (by omega)).1
  unfold GdN
  rw [aw_cmp s rn rd _ _ a1 a2 hd, aw_cmp s rn rd _ _ a2 a1 hd, dl_like 0 s rn rd (by omega), dl_other 1 s rn rd (by omega) (by omega), par_of]
  rw [Fo.mg_zero, Nat.zero_mul]
  unfold dN
  exact ⟨by omega, fun _ => rfl⟩
end Go.Proofs.YtpdjpjkieafnbaaGreatDoor.Li
set_option linter.unusedVariables false
set_option linter.unusedSimpArgs false
namespace Go.Proofs.YtpdjpjkieafnbaaGreatDoor.Li
open Go.RowKit Lb Nr
/-- A quotient as a value, its parts not longer than so many limbs. -/
def QL (L : Nat) (w : World) (x y z : Value) (s : Bool) (n d : Nat) : Prop :=
  ∃ an cn ln ad cd ld, x = .bool s ∧ y = .slice an (List.length ln) cn ∧ z = .slice ad (List.length ld) cd ∧ ln.length ≤ cn ∧ ld.length ≤ cd ∧ ln.length ≤ L ∧ ld.length ≤ L ∧ Rd w an ln ∧ Rd w ad ld ∧ Lim ln ∧ Lim ld ∧ val ln = n ∧ val ld = d
theorem QL.keep {L : Nat} {w w' : World} {x y z : Value} {s : Bool} {n d : Nat} (h : QL L w x y z s n d) (k : Keep w w') : QL L w' x y z s n d := by
  obtain ⟨an, cn, ln, ad, cd, ld, h1, h2, h3, h4, h5, h6, h7, r1, r2, h8⟩ := h
  exact ⟨an, cn, ln, ad, cd, ld, h1, h2, h3, h4, h5, h6, h7, r1.keep k, r2.keep k, h8⟩
theorem RatF.ql {L : Nat} {w w' : World} {e : Ending} {neg : Bool} {N D : Nat} (h : RatF w w' e neg N D) (hN : N < 4294967296 ^ L) (hD : D < 4294967296 ^ L) : ∃ x y z, e = .returned (.tuple #[.agg #[x, y, z], .int .i64 (RE D)]) ∧ QL L w' x y z (RS neg N D) (RN N D) (RD N D) ∧ Keep w w' := by
  obtain ⟨an, cn, ln, ad, cd, ld, rfl, g1, g2, r1, r2, q1, q2, n1, n2, e1, e2, k⟩ := h
  have l1 : RN N D ≤ N := by
    unfold RN
    split
    · omega
    · exact Nat.div_le_self _ _
  have l2 : RD N D ≤ D := by
    unfold RD
    split
    · omega
    · exact Nat.div_le_self _ _
  exact ⟨_, _, _, rfl, ⟨an, cn, ln, ad, cd, ld, rfl, rfl, rfl, g1, g2, len_le_pow n1 L (by rw [e1]; omega), len_le_pow n2 L (by rw [e2]; omega), r1, r2, q1, q2, e1, e2⟩, k⟩
theorem PN_le (s t : Bool) (L R : Nat) : PN s t L R ≤ L + R := by
  unfold PN
  (repeat' split) <;> omega
set_option maxRecDepth 100000 in
set_option maxHeartbeats 2000000 in
/-- How far a quotient lies from what is no number. -/
theorem away_bad {x y z : Value} {L : Nat} {s : Bool} {n d : Nat} (b : Nat) (hb : b < 18446744073709551616) (w : World) (hq : qB b = true) (hA : QL L w x y z s n d) :
    Calls Tryz.prog 42 #[.agg #[x, y, z], .float .f64 b] w fun e w' => ∃ s' a' n' c' a2 n2 c2, e = .returned (.tuple #[.agg #[.bool s', .slice a' n' c', .slice a2 n2 c2], .bool false]) ∧ Keep w w' := by
  obtain ⟨a0, c0, l0, a1, c1, l1, rfl, rfl, rfl, -⟩ := hA
  have hQ := fun wx => Quotient_own b hb wx
  have hz : qZ b = 60 := by unfold qZ; rw [hq]; rfl
  rw [hz] at hQ
  clear hq
  obtain ⟨W, hW, B1, B2, kW⟩ := lay2 w (.bool s) (.slice a0 l0.length c0) (.slice a1 l1.length c1) (.bool false) (.slice none 0 0) (.slice none 0 0)
  go_enter Tryz.func42, Tryz.ntmps42
  go_wp2_with fail
  rw [← hW]
  clear hW
  refine (hQ _).mono ?_
  rintro e w3 ⟨M, va, vb, rfl, m1, m2, qa, qb, k3⟩
  obtain ⟨aa, ca, la, rfl, -⟩ := qa.open
  obtain ⟨ab, cb, lb, rfl, -⟩ := qb.open
  obtain ⟨s2, hs2⟩ : ∃ s2, qS b = s2 := ⟨_, rfl⟩
  rw [hs2]
  obtain ⟨w4, hw4⟩ : ∃ w4, w3.alloc (.cells #[.bool s2, .slice aa la.length ca, .slice ab lb.length cb] 54) = w4 := ⟨_, rfl⟩
  have k4 : Keep w3 w4 := by rw [← hw4]; exact (Keep.refl w3).alloc _
  have B4 : Box w4 w3.heap.size (.bool s2) (.slice aa la.length ca) (.slice ab lb.length cb) := by rw [← hw4]; exact Box.new w3 _ _ _
  have BC := (B2.keep k3).keep k4
  obtain ⟨z0, z1, z2⟩ := BC.cells
  have f0 := BC.free 0
  have f1 := BC.free 1
  have f2 := BC.free 2
  obtain ⟨x0, x1, x2⟩ := B4.cells
  have K4 : Hid (Keep w w4) := (kW.trans k3).trans k4
  clear B1 B2 BC B4 kW k3 k4 qa qb hQ hs2 m1 m2
  go_wp2_with fail
  refine bodyPost_ret (v := .tuple #[.agg #[.bool s2, .slice aa la.length ca, .slice ab lb.length cb], .bool false]) (by simp [results, Tryz.results42, go_sem, World.cell?_setCell_other, World.cell?_setCell_same, z0, z1, z2]) rfl ⟨_, _, _, _, _, _, _, rfl, ?_⟩
  exact ((K4.out.setCell (p := ⟨w.heap.size + 1, 0, none⟩) (by show w.heap.size ≤ w.heap.size + 1; omega) _).setCell (p := ⟨w.heap.size + 1, 1, none⟩) (by show w.heap.size ≤ w.heap.size + 1; omega) _).setCell (p := ⟨w.heap.size + 1, 2, none⟩) (by show w.heap.size ≤ w.heap.size + 1; omega) _
theorem rd_box1 {w : World} {a : Option Addr} {l : List Nat} {g : Nat} {p q r : Value} (h : Rd w a l) (hb : Box w g p q r) (hp : ∀ x, p ≠ .int .u32 x) (hq : ∀ x, q ≠ .int .u32 x) (hr : ∀ x, r ≠ .int .u32 x) (x : Value) : Rd (w.setCell ⟨g, 0, none⟩ x) a l := by
  intro j hj
  obtain ⟨b', o', e', hc⟩ := h j hj
  refine ⟨b', o', e', ?_⟩
  by_cases c : b' = g
  · subst c
    have h1 := cell_of_row w b' (o' + j) _ 54 (0, 0) hb
    rw [h1] at hc
    exfalso
    match hk : o' + j with
    | 0 => rw [hk] at hc; simp at hc; exact hp _ hc
    | 1 => rw [hk] at hc; simp at hc; exact hq _ hc
    | 2 => rw [hk] at hc; simp at hc; exact hr _ hc
    | k + 3 => rw [hk] at hc; simp at hc
  · rw [World.cell?_setCell_far _ _ _ _ (fun q => c q.symm)]
    exact hc
theorem Box.set0 {w : World} {g : Nat} {x y z : Value} (h : Box w g x y z) (x' : Value) : Box (w.setCell ⟨g, 0, none⟩ x') g x' y z := by
  have h1 := heap_setCell_same w g 0 _ 54 x' h
  unfold Box
  rw [h1]
  simp
theorem Box.far {w : World} {g g' j : Nat} {x y z : Value} (h : Box w g x y z) (hne : g ≠ g') (v : Value) : Box (w.setCell ⟨g', j, none⟩ v) g x y z :=
  (heap_setCell_other w ⟨g', j, none⟩ g v hne).trans h
set_option maxRecDepth 100000 in
set_option maxHeartbeats 4000000 in
/-- How far a quotient lies from a number. -/
theorem away_ok {x y z : Value} {L : Nat} {s : Bool} {n d : Nat} (b : Nat) (hb : b < 18446744073709551616) (w : World) (hq : qB b = false) (hA : QL L w x y z s n d) (hL : L ≤ 35184372087808) (hd : 0 < d) :
    Calls Tryz.prog 42 #[.agg #[x, y, z], .float .f64 b] w fun e w' => ∃ y' z', e = .returned (.tuple #[.agg #[.bool false, y', z'], .bool true]) ∧ QL (L + 41) w' (.bool false) y' z' false (awN s n d b) (awD s n d b) ∧ Keep w w' := by
  obtain ⟨a0, c0, l0, a1, c1, l1, rfl, rfl, rfl, h4, h5, h6, h7, r0, r1, i0, i1, rfl, rfl⟩ := hA
  have hQ := fun wx => Quotient_own b hb wx
  have hz : qZ b = 0 := by unfold qZ; rw [hq]; rfl
  rw [hz] at hQ
  have hdp := (qN_mg b hq).2
  have bn := qN_lt b
  have bd := qD_lt b
  clear hq hz
  obtain ⟨W, hW, B1, B2, kW⟩ := lay2 w (.bool s) (.slice a0 l0.length c0) (.slice a1 l1.length c1) (.bool false) (.slice none 0 0) (.slice none 0 0)
  go_enter Tryz.func42, Tryz.ntmps42
  go_wp2_with fail
  rw [← hW]
  clear hW
  refine (hQ _).mono ?_
  rintro e w3 ⟨M, va, vb, rfl, m1, m2, qa, qb, k3⟩
  obtain ⟨aa, ca, la, rfl, la1, la2, la3, ra, oa, lca⟩ := qa.open
  obtain ⟨ab, cb, lb, rfl, lb1, lb2, lb3, rb, ob, lcb⟩ := qb.open
  have ha40 : la.length ≤ 40 := len_of la2 (by rw [la3]; exact bn)
  have hb40 : lb.length ≤ 40 := len_of lb2 (by rw [lb3]; exact bd)
  obtain ⟨s2, hs2⟩ : ∃ s2, qS b = s2 := ⟨_, rfl⟩
  rw [hs2]
  obtain ⟨w4, hw4⟩ : ∃ w4, w3.alloc (.cells #[.bool s2, .slice aa la.length ca, .slice ab lb.length cb] 54) = w4 := ⟨_, rfl⟩
  have k4 : Keep w3 w4 := by rw [← hw4]; exact (Keep.refl w3).alloc _
  have B4 : Box w4 w3.heap.size (.bool s2) (.slice aa la.length ca) (.slice ab lb.length cb) := by rw [← hw4]; exact Box.new w3 _ _ _
  have kW4 : Keep W w4 := k3.trans k4
  have K4 := kW.trans kW4
  have BR := B1.keep kW4
  have B24 := B2.keep kW4
  obtain ⟨x0, x1, x2⟩ := B4.cells
  obtain ⟨y0, y1, y2⟩ := BR.cells
  have hMi := Minus_form s s2 a0 a1 aa ab c0 c1 ca cb l0 l1 la lb w4 ⟨h4, h5, by omega, by omega, r0.keep K4, r1.keep K4, i0, i1⟩ ⟨lca, lcb, by omega, by omega, ra.rd.keep k4, rb.rd.keep k4, la1, lb1⟩
  have v0 := val_lt i0
  have v1 := val_lt i1
  have e0 : (4294967296 : Nat) ^ l0.length ≤ 4294967296 ^ L := Nat.pow_le_pow_right (by omega) h6
  have e1 : (4294967296 : Nat) ^ l1.length ≤ 4294967296 ^ L := Nat.pow_le_pow_right (by omega) h7
  have bD : val l1 * val lb < 4294967296 ^ (L + 41) := by
    rw [lb3, Nat.pow_add]
    refine Nat.mul_lt_mul_of_lt_of_le (Nat.lt_of_lt_of_le v1 e1) (Nat.le_of_lt (Nat.lt_trans bd (Nat.pow_lt_pow_right (by omega) (by omega)))) (Nat.pow_pos (by omega))
  have bN : PN s (!s2) (val l0 * val lb) (val la * val l1) < 4294967296 ^ (L + 41) := by
    have p1 : val l0 * val lb < 4294967296 ^ (L + 40) := by
      rw [lb3, Nat.pow_add]
      exact Nat.mul_lt_mul_of_lt_of_le (Nat.lt_of_lt_of_le v0 e0) (Nat.le_of_lt bd) (Nat.pow_pos (by omega))
    have p2 : val la * val l1 < 4294967296 ^ (L + 40) := by
      rw [la3, Nat.mul_comm, Nat.pow_add]
      exact Nat.mul_lt_mul_of_lt_of_le (Nat.lt_of_lt_of_le v1 e1) (Nat.le_of_lt bn) (Nat.pow_pos (by omega))
    have p3 := PN_le s (!s2) (val l0 * val lb) (val la * val l1)
    have p4 : (4294967296 : Nat) ^ (L + 41) = 4294967296 ^ (L + 40) * 4294967296 := by rw [show L + 41 = L + 40 + 1 by omega, Nat.pow_succ]
    rw [p4]
    generalize (4294967296 : Nat) ^ (L + 40) = P at *
    omega
  have hRE : RE (val l1 * val lb) = 0 := by
    unfold RE
    rw [if_neg]
    have : 0 < val l1 * val lb := Nat.mul_pos hd (by rw [lb3]; exact hdp)
    omega
  have hNe : awN s (val l0) (val l1) b = RN (PN s (!s2) (val l0 * val lb) (val la * val l1)) (val l1 * val lb) := by unfold awN; rw [hs2, la3, lb3]
  have hDe : awD s (val l0) (val l1) b = RD (PN s (!s2) (val l0 * val lb) (val la * val l1)) (val l1 * val lb) := by unfold awD; rw [hs2, la3, lb3]
  have HNe : Hid _ := hNe
  have HDe : Hid _ := hDe
  have HK4 : Hid (Keep w w4) := K4
  have hlt : w.heap.size + 1 < w4.heap.size := (Array.getElem?_eq_some_iff.1 B24).1
  clear hNe hDe qa qb ra rb oa ob hs2 hdp bn bd la1 la2 la3 lb1 lb2 lb3 v0 v1 e0 e1 r0 r1 k3 k4 kW kW4 K4 B1 B2 BR B4 hQ m1 m2 i0 i1
  generalize PN s (!s2) (val l0 * val lb) (val la * val l1) = NN at *
  generalize PG s (!s2) (val l0 * val lb) (val la * val l1) = GG at *
  generalize val l1 * val lb = DD at *
  have HbN : Hid (NN < 4294967296 ^ (L + 41) ∧ DD < 4294967296 ^ (L + 41)) := ⟨bN, bD⟩
  clear bN bD
  go_wp2_with fail
  refine hMi.mono ?_
  rintro e w5 hC
  have kC := hC
  obtain ⟨x', y', z', rfl, hql, k5⟩ := hC.ql HbN.out.1 HbN.out.2
  obtain ⟨an, cn, ln, ad, cm, lm, rfl, rfl, rfl, g4, g5, g6, g7, t0, t1, u0, u1, q0, q1⟩ := hql
  rw [hRE]
  obtain ⟨rs, hrs⟩ : ∃ rs, RS GG NN DD = rs := ⟨_, rfl⟩
  rw [hrs]
  obtain ⟨w6, hw6⟩ : ∃ w6, w5.alloc (.cells #[.bool rs, .slice an ln.length cn, .slice ad lm.length cm] 54) = w6 := ⟨_, rfl⟩
  have k6 : Keep w5 w6 := by rw [← hw6]; exact (Keep.refl w5).alloc _
  have B6 : Box w6 w5.heap.size (.bool rs) (.slice an ln.length cn) (.slice ad lm.length cm) := by rw [← hw6]; exact Box.new w5 _ _ _
  have hne : w.heap.size + 1 ≠ w5.heap.size := by have := k5.le; omega
  obtain ⟨w7, hw7⟩ : ∃ w7, w6.setCell ⟨w5.heap.size, 0, none⟩ (.bool false) = w7 := ⟨_, rfl⟩
  have B7 : Box w7 w5.heap.size (.bool false) (.slice an ln.length cn) (.slice ad lm.length cm) := by rw [← hw7]; exact B6.set0 _
  have B27 : Box w7 (w.heap.size + 1) (.bool false) (.slice none 0 0) (.slice none 0 0) := by rw [← hw7]; exact ((B24.keep k5).keep k6).far hne _
  have T0 : Rd w7 an ln := by rw [← hw7]; exact rd_box1 (t0.keep k6) B6 (by simp) (by simp) (by simp) _
  have T1 : Rd w7 ad lm := by rw [← hw7]; exact rd_box1 (t1.keep k6) B6 (by simp) (by simp) (by simp) _
  have K7 : Keep w w7 := by
    rw [← hw7]
    exact ((HK4.out.trans k5).trans k6).setCell (p := ⟨w5.heap.size, 0, none⟩) (by have := k5.le; have := HK4.out.le; show w.heap.size ≤ w5.heap.size; omega) _
  obtain ⟨a6, b6, c6⟩ := B6.cells
  have fr6 := B6.free 0
  obtain ⟨a7, b7, c7⟩ := B7.cells
  obtain ⟨z0, z1, z2⟩ := B27.cells
  have f0 := B27.free 0
  have f1 := B27.free 1
  have f2 := B27.free 2
  have HFin : Hid (QL (L + 41) (((w7.setCell ⟨w.heap.size + 1, 0, none⟩ (.bool false)).setCell ⟨w.heap.size + 1, 1, none⟩ (.slice an ln.length cn)).setCell ⟨w.heap.size + 1, 2, none⟩ (.slice ad lm.length cm)) (.bool false) (.slice an ln.length cn) (.slice ad lm.length cm) false (RN NN DD) (RD NN DD) ∧ Keep w (((w7.setCell ⟨w.heap.size + 1, 0, none⟩ (.bool false)).setCell ⟨w.heap.size + 1, 1, none⟩ (.slice an ln.length cn)).setCell ⟨w.heap.size + 1, 2, none⟩ (.slice ad lm.length cm))) :=
    ⟨⟨an, cn, ln, ad, cm, lm, rfl, rfl, rfl, g4, g5, g6, g7, rd_box T0 B27 (by simp) (by simp) (by simp) _ _ _, rd_box T1 B27 (by simp) (by simp) (by simp) _ _ _, u0, u1, q0, q1⟩, ((K7.setCell (p := ⟨w.heap.size + 1, 0, none⟩) (by show w.heap.size ≤ w.heap.size + 1; omega) _).setCell (p := ⟨w.heap.size + 1, 1, none⟩) (by show w.heap.size ≤ w.heap.size + 1; omega) _).setCell (p := ⟨w.heap.size + 1, 2, none⟩) (by show w.heap.size ≤ w.heap.size + 1; omega) _⟩
  clear K7 T0 T1 B7 B27 B6 B24 k5 k6 t0 t1 u0 u1 q0 q1 g4 g5 g6 g7 hMi kC hRE HbN hrs
  go_wp2_with fail
  refine bodyPost_ret (v := .tuple #[.agg #[.bool false, .slice an ln.length cn, .slice ad lm.length cm], .bool true]) (by simp [results, Tryz.results42, go_sem, World.cell?_setCell_other, World.cell?_setCell_same, z0, z1, z2]) rfl ⟨_, _, rfl, ?_, ?_⟩
  · rw [HNe.out, HDe.out]
    exact HFin.out.1
  · exact HFin.out.2
end Go.Proofs.YtpdjpjkieafnbaaGreatDoor.Li
set_option linter.unusedVariables false
set_option linter.unusedSimpArgs false
namespace Go.Proofs.YtpdjpjkieafnbaaGreatDoor.Li
open Go.RowKit Lb Nr
set_option maxRecDepth 100000 in
set_option maxHeartbeats 400000 in
theorem pN_zero (ng : Bool) (v1 v2 : Value) (K : Nat) (w : World) (h2 : Lv w v2 0 K) (hK : K ≤ 35184372087850) :
    Calls Tryz.prog 33 #[.agg #[.bool ng, v1, v2]] w fun e w' => e = .returned (.tuple #[.float .f64 0, .int .i64 11]) ∧ Keep w w' := by
  have L2 := fun wx (kx : Keep w wx) => Len_lv v2 0 K wx (h2.keep kx) (by omega)
  have s0 : sz 0 = 0 := rfl
  rw [s0] at L2
  obtain ⟨w0, hw0, k0, tb⟩ : ∃ w0, w.alloc (Obj.cells #[.bool ng, v1, v2] 54) = w0 ∧ Keep w w0 ∧ w0.heap[w.heap.size]? = some (Obj.cells #[.bool ng, v1, v2] 54 (0, 0)) := ⟨_, rfl, (Keep.refl w).alloc _, heap_alloc_new w _⟩
  have c0 := cell_of_row _ _ 0 _ 54 (0, 0) tb
  have c1 := cell_of_row _ _ 1 _ 54 (0, 0) tb
  have c2 := cell_of_row _ _ 2 _ 54 (0, 0) tb
  simp only [List.getElem?_toArray, List.getElem?_cons_zero, List.getElem?_cons_succ] at c0 c1 c2
  go_enter Tryz.func33, Tryz.ntmps33
  go_wp2_with fail
  refine (L2 _ k0).mono ?_
  rintro e wx ⟨rfl, rfl⟩
  go_wp2_with fail
  go_ret2
  exact ⟨rfl, k0⟩
theorem i26 : (Tryz.prog.info? 26).map (fun i => (i.zero, i.size, i.bytes)) = some (some (.int .u64 0), 1, 8) := by kernel_rfl
/-- append of one number to a row of one. -/
theorem app26_run (w : World) (ty : Nat) (x y : Int) (g h : Nat) (hg : w.heap[g]? = some (.cells #[.int .u64 x] 26 (0, 0))) (hh : w.cell? ⟨h, 0, none⟩ = some (.int .u64 y)) (W : World) (kW : Keep W w) (hWg : W.heap.size ≤ g) :
    ∃ g' c w', (Builtin.append_ #[79, 79] ty #[.slice (some ⟨g, 0, none⟩) 1 1, .slice (some ⟨h, 0, none⟩) 1 1]).run Tryz.prog w = .ok (.slice (some ⟨g', 0, none⟩) 2 c) w' ∧ w'.cell? ⟨g', 0, none⟩ = some (.int .u64 x) ∧ w'.cell? ⟨g', 1, none⟩ = some (.int .u64 y) ∧ Keep W w' := by
  obtain ⟨i0, hi, hz0, hz1, hz2⟩ := info_parts i26
  have hown : w.ownsRow W.heap.size 26 1 (.slice (some ⟨g, 0, none⟩) 1 1) 1 [.int .u64 x] := ⟨rfl, .inr ⟨g, 1, #[.int .u64 x], rfl, hWg, hg, Nat.le_refl _, by simp only [maxLen]; omega, rfl, rfl⟩⟩
  obtain ⟨v', w', hr, h2, h3, -⟩ := run_append_own (P := Tryz.prog) w W.heap.size 79 ty 26 i0 _ 1 8 Tryz.underlying79 hi hz0 hz1 hz2 rfl (by omega) _ _ _ hown ⟨h, 0, none⟩ 1 1 [.int .u64 y] rfl (by
    intro j u hj
    match j, hj with
    | 0, hj => simp at hj; subst hj; exact hh
    | j + 1, hj => simp at hj) (by intro u hu; simp at hu; subst hu; rfl) (by simp only [maxLen]; omega) (by omega) kW.le
  have kf : Keep W w' := Below.grown kW h3 kW.le (fun k hk => by have : g = k := (by simpa [Value.ownBlock] using hk); omega)
  rcases h2.2 with ⟨-, q⟩ | ⟨g', cap, cur, hv, -, hh', p1, p2, p3, p4⟩
  · omega
  · refine ⟨g', cap, w', by rw [hr, hv], ?_, ?_, kf⟩
    · rw [cell_of_row w' g' 0 cur 26 (0, 0) hh']
      have e : cur.toList[0]? = ([Value.int .u64 x] ++ [Value.int .u64 y])[0]? := by rw [← p4, List.getElem?_take, if_pos (by omega)]
      simpa using e
    · rw [cell_of_row w' g' 1 cur 26 (0, 0) hh']
      have e : cur.toList[1]? = ([Value.int .u64 x] ++ [Value.int .u64 y])[1]? := by rw [← p4, List.getElem?_take, if_pos (by omega)]
      simpa using e
theorem wpList_app26 {w : World} {ops : Array Oper} {rest : List Oper} {o : Oper} {a : Act} {Q : Exit → Act → World → Prop} (hgd : o.guard = none) (s x : Operand)
    (hop : o.op = .call { callee := .builtin .append, args := #[s, x], argTypes := #[79, 79] }) (X Y : Int) (g h : Nat) (hs : a.eval s = .slice (some ⟨g, 0, none⟩) 1 1) (hx : a.eval x = .slice (some ⟨h, 0, none⟩) 1 1)
    (hg : w.heap[g]? = some (.cells #[.int .u64 X] 26 (0, 0))) (hh : w.cell? ⟨h, 0, none⟩ = some (.int .u64 Y)) (W : World) (kW : Keep W w) (hWg : W.heap.size ≤ g)
    (hK : ∀ g' c w', w'.cell? ⟨g', 0, none⟩ = some (.int .u64 X) → w'.cell? ⟨g', 1, none⟩ = some (.int .u64 Y) → Keep W w' → wpList Tryz.prog ops Q rest (a.put o.dst (.slice (some ⟨g', 0, none⟩) 2 c)) w') :
    wpList Tryz.prog ops Q (o :: rest) a w := by
  refine wpList_plain hgd fun K hK' => ?_
  obtain ⟨g', c, w', hrun, r1, r2, r3⟩ := app26_run w o.type X Y g h hg hh W kW hWg
  unfold Oper.wp
  simp [execOp, hop, resolve, invoke, builtin, hs, hx, hrun, Result.andThen]
  exact hK' _ _ (hK g' c w' r1 r2 r3)
/-- The field of the bits. -/
theorem field_and (b : Nat) (hb : b < 18446744073709551616) : bits .and .u64 ((b : Int) / 4503599627370496) 2047 = ((b / 4503599627370496 % 2048 : Nat) : Int) := by
  rw [show (b : Int) / 4503599627370496 = ((b / 4503599627370496 : Nat) : Int) by omega, show (2047 : Int) = ((2047 : Nat) : Int) from rfl, u64_and_nat _ 2047 (by omega) (by omega), show b / 4503599627370496 &&& 2047 = b / 4503599627370496 % 2048 from Nat.and_two_pow_sub_one_eq_mod _ 11]
theorem low_and (b : Nat) (hb : b < 18446744073709551616) : bits .and .u64 (b : Int) 1 = ((b % 2 : Nat) : Int) := by
  rw [show (1 : Int) = ((1 : Nat) : Int) from rfl, u64_and_nat b 1 (by omega) (by omega), show b &&& 1 = b % 2 from Nat.and_two_pow_sub_one_eq_mod b 1]
theorem not_sign (b : Nat) (hb : b < 18446744073709551616) : bits .andNot .u64 (b : Int) 9223372036854775808 = ((b % 9223372036854775808 : Nat) : Int) := by
  rw [show (9223372036854775808 : Int) = ((9223372036854775808 : Nat) : Int) from rfl, u64_andNot_nat b _ hb (by omega), show b &&& (18446744073709551615 - 9223372036854775808) = b % 9223372036854775808 from Nat.and_two_pow_sub_one_eq_mod b 63]
/-- What a neighbour must be: none, or not nearer. -/
def Nbr (s : Bool) (rn rd b c : Nat) : Prop := c < 18446744073709551616 ∧ (qB c = true ∨ qB c = false ∧ GdN s rn rd b c)
theorem qB_inf (s : Bool) : qB (9218868437227405312 + sg s) = true := by cases s <;> decide
theorem nbr_up {s : Bool} {rn rd x : Nat} (hd : 0 < rd) (h : NB rn rd x) (hx : x < 9218868437227405312) : Nbr s rn rd (x + sg s) (x + sg s + 1) := by
  have e : x + sg s + 1 = x + 1 + sg s := by omega
  have hs : sg s ≤ 9223372036854775808 := by cases s <;> decide
  rw [e]
  refine ⟨by omega, ?_⟩
  by_cases c : x + 1 < 9218868437227405312
  · exact .inr ⟨(bits_of (x + 1) s c).1, gd_up hd h c⟩
  · left
    rw [show x + 1 = 9218868437227405312 by omega]
    exact qB_inf s
theorem nbr_down {s : Bool} {rn rd x : Nat} (hd : 0 < rd) (h : NB rn rd x) (hx : x < 9218868437227405312) (h0 : 0 < x) : Nbr s rn rd (x + sg s) (x + sg s - 1) := by
  have e : x + sg s - 1 = x - 1 + sg s := by omega
  have hs : sg s ≤ 9223372036854775808 := by cases s <;> decide
  rw [e]
  exact ⟨by omega, .inr ⟨(bits_of (x - 1) s (by omega)).1, gd_down hd h hx h0⟩⟩
theorem nbr_other {s : Bool} {rn rd : Nat} (hd : 0 < rd) : Nbr s rn rd (0 + sg s) (1 + sg (!s)) := by
  refine ⟨by cases s <;> decide, .inr ⟨(bits_of 1 (!s) (by omega)).1, gd_other hd⟩⟩
end Go.Proofs.YtpdjpjkieafnbaaGreatDoor.Li
