import Derived.Test.YtbpfpldahmfjaaaGreatDoorLK11
import Derived.Test.YtbpfpldahmfjaaaGreatDoorLK10
set_option linter.unusedVariables false
set_option linter.unusedSimpArgs false
namespace Go.Proofs.YtbpfpldahmfjaaaGreatDoor.Li
open Go.RowKit Lb
/-- A quotient as a value. -/
def Qt (w : World) (x y z : Value) (s : Bool) (n d : Nat) : Prop :=
  ∃ an cn ln ad cd ld, x = .bool s ∧ y = .slice an (List.length ln) cn ∧ z = .slice ad (List.length ld) cd ∧ Arg2 w an cn ln ad cd ld ∧ Nrm ln ∧ Nrm ld ∧ val ln = n ∧ val ld = d
theorem Qt.keep {w w' : World} {x y z : Value} {s : Bool} {n d : Nat} (h : Qt w x y z s n d) (k : Keep w w') : Qt w' x y z s n d := by
  obtain ⟨an, cn, ln, ad, cd, ld, h1, h2, h3, hA, h4⟩ := h
  exact ⟨an, cn, ln, ad, cd, ld, h1, h2, h3, hA.keep k, h4⟩
theorem RN_le2 (N D : Nat) : RN N D ≤ N := by
  unfold RN
  split
  · omega
  · exact Nat.div_le_self _ _
theorem RD_le2 (N D : Nat) : RD N D ≤ D := by
  unfold RD
  split
  · omega
  · exact Nat.div_le_self _ _
theorem big_le {n : Nat} (h : n < 4294967296 ^ 8) {l : List Nat} (hn : Nrm l) (e : val l ≤ n) : l.length ≤ 16777216 := by
  have := len_le_pow hn 8 (Nat.lt_of_le_of_lt e h)
  omega
theorem RatF.qt {w w' : World} {e : Ending} {neg : Bool} {N D : Nat} (h : RatF w w' e neg N D) (hN : N < 4294967296 ^ 8) (hD : D < 4294967296 ^ 8) : ∃ x y z, e = .returned (.tuple #[.agg #[x, y, z], .int .i64 (RE D)]) ∧ Qt w' x y z (RS neg N D) (RN N D) (RD N D) ∧ Keep w w' := by
  obtain ⟨an, cn, ln, ad, cd, ld, rfl, g1, g2, r1, r2, q1, q2, n1, n2, e1, e2, k⟩ := h
  exact ⟨_, _, _, rfl, ⟨an, cn, ln, ad, cd, ld, rfl, rfl, rfl, ⟨g1, g2, big_le hN n1 (by rw [e1]; exact RN_le2 _ _), big_le hD n2 (by rw [e2]; exact RD_le2 _ _), r1, r2, q1, q2⟩, n1, n2, e1, e2⟩, k⟩
theorem Whole_q (n : Int) (w : World) (h1 : -9223372036854775808 ≤ n) (h2 : n ≤ 9223372036854775807) :
    Calls Tryz.prog 14 #[.int .i64 n] w fun e w' => ∃ x y z, e = .returned (.agg #[x, y, z]) ∧ Qt w' x y z (decide (n < 0)) n.natAbs 1 ∧ Keep w w' := by
  refine (Whole_form n w h1 h2).mono ?_
  rintro e w' ⟨an, cn, ln, ad, cd, ld, rfl, g1, g2, r1, r2, q1, q2, n1, n2, e1, e2, k⟩
  have hb : (9223372036854775808 : Nat) < 4294967296 ^ 8 := by decide
  exact ⟨_, _, _, rfl, ⟨an, cn, ln, ad, cd, ld, rfl, rfl, rfl, ⟨g1, g2, big_le hb n1 (by omega), big_le hb n2 (by omega), r1, r2, q1, q2⟩, n1, n2, e1, e2⟩, k⟩
theorem Times_q {x1 y1 z1 x2 y2 z2 : Value} {s1 s2 : Bool} {n1 d1 n2 d2 : Nat} (w : World) (hA : Qt w x1 y1 z1 s1 n1 d1) (hB : Qt w x2 y2 z2 s2 n2 d2) (b1 : n1 * n2 < 4294967296 ^ 8) (b2 : d1 * d2 < 4294967296 ^ 8) :
    Calls Tryz.prog 13 #[.agg #[x1, y1, z1], .agg #[x2, y2, z2]] w fun e w' => ∃ x y z, e = .returned (.tuple #[.agg #[x, y, z], .int .i64 (RE (d1 * d2))]) ∧ Qt w' x y z (RS (s1 != s2) (n1 * n2) (d1 * d2)) (RN (n1 * n2) (d1 * d2)) (RD (n1 * n2) (d1 * d2)) ∧ Keep w w' := by
  obtain ⟨a, ca, la, b, cb, lb, rfl, rfl, rfl, A, -, -, rfl, rfl⟩ := hA
  obtain ⟨c, cc, lc, d, cd, ld, rfl, rfl, rfl, B, -, -, rfl, rfl⟩ := hB
  exact (Times_form s1 s2 a b c d ca cb cc cd la lb lc ld w A B).mono fun e w' h => h.qt b1 b2
theorem By_q {x1 y1 z1 x2 y2 z2 : Value} {s1 s2 : Bool} {n1 d1 n2 d2 : Nat} (w : World) (hA : Qt w x1 y1 z1 s1 n1 d1) (hB : Qt w x2 y2 z2 s2 n2 d2) (b1 : n1 * d2 < 4294967296 ^ 8) (b2 : d1 * n2 < 4294967296 ^ 8) (h0 : d2 ≠ 0) :
    Calls Tryz.prog 15 #[.agg #[x1, y1, z1], .agg #[x2, y2, z2]] w fun e w' => ∃ x y z, e = .returned (.tuple #[.agg #[x, y, z], .int .i64 (RE (d1 * n2))]) ∧ Qt w' x y z (RS (s1 != s2) (n1 * d2) (d1 * n2)) (RN (n1 * d2) (d1 * n2)) (RD (n1 * d2) (d1 * n2)) ∧ Keep w w' := by
  obtain ⟨a, ca, la, b, cb, lb, rfl, rfl, rfl, A, -, -, rfl, rfl⟩ := hA
  obtain ⟨c, cc, lc, d, cd, ld, rfl, rfl, rfl, B, -, -, rfl, rfl⟩ := hB
  have q := By_form s1 s2 a b c d ca cb cc cd la lb lc ld w A B
  rw [if_neg h0] at q
  exact q.mono fun e w' h => h.qt b1 b2
theorem Plus_q {x1 y1 z1 x2 y2 z2 : Value} {s1 s2 : Bool} {n1 d1 n2 d2 : Nat} (w : World) (hA : Qt w x1 y1 z1 s1 n1 d1) (hB : Qt w x2 y2 z2 s2 n2 d2) (b1 : PN s1 s2 (n1 * d2) (n2 * d1) < 4294967296 ^ 8) (b2 : d1 * d2 < 4294967296 ^ 8) :
    Calls Tryz.prog 17 #[.agg #[x1, y1, z1], .agg #[x2, y2, z2]] w fun e w' => ∃ x y z, e = .returned (.tuple #[.agg #[x, y, z], .int .i64 (RE (d1 * d2))]) ∧ Qt w' x y z (RS (PG s1 s2 (n1 * d2) (n2 * d1)) (PN s1 s2 (n1 * d2) (n2 * d1)) (d1 * d2)) (RN (PN s1 s2 (n1 * d2) (n2 * d1)) (d1 * d2)) (RD (PN s1 s2 (n1 * d2) (n2 * d1)) (d1 * d2)) ∧ Keep w w' := by
  obtain ⟨a, ca, la, b, cb, lb, rfl, rfl, rfl, A, -, -, rfl, rfl⟩ := hA
  obtain ⟨c, cc, lc, d, cd, ld, rfl, rfl, rfl, B, -, -, rfl, rfl⟩ := hB
  exact (Plus_form s1 s2 a b c d ca cb cc cd la lb lc ld w A B).mono fun e w' h => h.qt b1 b2
theorem Minus_q {x1 y1 z1 x2 y2 z2 : Value} {s1 s2 : Bool} {n1 d1 n2 d2 : Nat} (w : World) (hA : Qt w x1 y1 z1 s1 n1 d1) (hB : Qt w x2 y2 z2 s2 n2 d2) (b1 : PN s1 (!s2) (n1 * d2) (n2 * d1) < 4294967296 ^ 8) (b2 : d1 * d2 < 4294967296 ^ 8) :
    Calls Tryz.prog 18 #[.agg #[x1, y1, z1], .agg #[x2, y2, z2]] w fun e w' => ∃ x y z, e = .returned (.tuple #[.agg #[x, y, z], .int .i64 (RE (d1 * d2))]) ∧ Qt w' x y z (RS (PG s1 (!s2) (n1 * d2) (n2 * d1)) (PN s1 (!s2) (n1 * d2) (n2 * d1)) (d1 * d2)) (RN (PN s1 (!s2) (n1 * d2) (n2 * d1)) (d1 * d2)) (RD (PN s1 (!s2) (n1 * d2) (n2 * d1)) (d1 * d2)) ∧ Keep w w' := by
  obtain ⟨a, ca, la, b, cb, lb, rfl, rfl, rfl, A, -, -, rfl, rfl⟩ := hA
  obtain ⟨c, cc, lc, d, cd, ld, rfl, rfl, rfl, B, -, -, rfl, rfl⟩ := hB
  exact (Minus_form s1 s2 a b c d ca cb cc cd la lb lc ld w A B).mono fun e w' h => h.qt b1 b2
theorem Order_q {x1 y1 z1 x2 y2 z2 : Value} {s1 s2 : Bool} {n1 d1 n2 d2 : Nat} (w : World) (hA : Qt w x1 y1 z1 s1 n1 d1) (hB : Qt w x2 y2 z2 s2 n2 d2) (h1 : d1 ≠ 0) (h2 : d2 ≠ 0) :
    Calls Tryz.prog 19 #[.agg #[x1, y1, z1], .agg #[x2, y2, z2]] w fun e w' => e = .returned (.tuple #[.int .i64 (ordV (s1 && !decide (n1 = 0)) (s2 && !decide (n2 = 0)) (n1 * d2) (n2 * d1)), .int .i64 0]) ∧ Keep w w' := by
  obtain ⟨a, ca, la, b, cb, lb, rfl, rfl, rfl, A, -, -, rfl, rfl⟩ := hA
  obtain ⟨c, cc, lc, d, cd, ld, rfl, rfl, rfl, B, -, -, rfl, rfl⟩ := hB
  exact Order_some s1 s2 a b c d ca cb cc cd la lb lc ld w A B h1 h2
/-- A half, out of two limbs. -/
theorem Over_half (w : World) (p q : Nat) (h1 : w.cell? ⟨p, 0, none⟩ = some (.int .u32 1)) (h2 : w.cell? ⟨q, 0, none⟩ = some (.int .u32 2)) :
    Calls Tryz.prog 16 #[.bool false, .slice (some ⟨p, 0, none⟩) 1 1, .slice (some ⟨q, 0, none⟩) 1 1] w fun e w' => ∃ x y z, e = .returned (.tuple #[.agg #[x, y, z], .int .i64 0]) ∧ Qt w' x y z false 1 2 ∧ Keep w w' := by
  have r1 : Rd w (some ⟨p, 0, none⟩) [1] := one_limb h1
  have r2 : Rd w (some ⟨q, 0, none⟩) [2] := by
    intro j hj
    obtain rfl : j = 0 := by simpa using hj
    exact ⟨q, 0, rfl, h2⟩
  have c := Over_form false (some ⟨p, 0, none⟩) (some ⟨q, 0, none⟩) 1 1 [1] [2] w (by simp) (by simp) (by simp) (by simp) r1 r2 (by intro x hx; simp at hx; omega) (by intro x hx; simp at hx; omega)
  refine c.mono fun e w' h => ?_
  obtain ⟨x, y, z, e1, q1, k1⟩ := h.qt (by decide) (by decide)
  refine ⟨x, y, z, ?_, ?_, k1⟩
  · rw [e1]; rfl
  · have a1 : RS false (val [1]) (val [2]) = false := by decide
    have a2 : RN (val [1]) (val [2]) = 1 := by decide
    have a3 : RD (val [1]) (val [2]) = 2 := by decide
    rw [a1, a2, a3] at q1
    exact q1
/-- Another sign. -/
theorem Qt.pos {w : World} {x y z : Value} {s : Bool} {n d : Nat} (h : Qt w x y z s n d) : Qt w (.bool false) y z false n d := by
  obtain ⟨an, cn, ln, ad, cd, ld, h1, h2, h3, hA, h4⟩ := h
  exact ⟨an, cn, ln, ad, cd, ld, rfl, h2, h3, hA, h4⟩
end Go.Proofs.YtbpfpldahmfjaaaGreatDoor.Li
