import Derived.Test.YtmhgpgdekaeegaaDoorProg
set_option linter.unusedVariables false
set_option linter.unusedSimpArgs false
namespace Go.Proofs.YtmhgpgdekaeegaaDoor.Bi
/-- How many of the first n bits are in. -/
def pcn (n x : Nat) : Nat := (List.range n).countP (fun i => x.testBit i)
theorem pcn_add (a b x : Nat) : pcn (a + b) x = pcn a x + pcn b (x / 2 ^ a) := by
  unfold pcn
  rw [List.range_add, List.countP_append, List.countP_map]
  congr 1
  apply List.countP_congr
  intro i _
  simp [Nat.testBit_div_two_pow, Nat.add_comm]
theorem pcn_mod (n x : Nat) : pcn n (x % 2 ^ n) = pcn n x := by
  unfold pcn
  apply List.countP_congr
  intro i hi
  rw [List.mem_range] at hi
  simp [Nat.testBit_mod_two_pow, hi]
theorem and_split (h l a b : Nat) (hl : l < 256) (hb : b < 256) : (256 * h + l) &&& (256 * a + b) = 256 * (h &&& a) + (l &&& b) := by
  have e : ∀ u v, v < 256 → ∀ j, (256 * u + v).testBit j = if j < 8 then v.testBit j else u.testBit (j - 8) := fun u v hv j => Nat.testBit_two_pow_mul_add u (i := 8) hv j
  apply Nat.eq_of_testBit_eq
  intro j
  have hlb : l &&& b < 256 := Nat.lt_of_le_of_lt Nat.and_le_left hl
  rw [Nat.testBit_and, e h l hl, e a b hb, e _ _ hlb]
  by_cases hj : j < 8
  · simp only [hj, if_true, Nat.testBit_and]
  · simp only [hj, if_false, Nat.testBit_and]
/-- The masks, k bytes of them. -/
def m0 : Nat → Nat | 0 => 0 | k + 1 => 256 * m0 k + 85
def m1 : Nat → Nat | 0 => 0 | k + 1 => 256 * m1 k + 51
def m2 : Nat → Nat | 0 => 0 | k + 1 => 256 * m2 k + 15
def sA (k x : Nat) : Nat := (x / 2 &&& m0 k) + (x &&& m0 k)
def sB (k x : Nat) : Nat := (x / 4 &&& m1 k) + (x &&& m1 k)
def sC (k x : Nat) : Nat := (x / 16 + x) &&& m2 k
theorem b85 : ∀ l, l < 128 → (128 + l) &&& 85 = l &&& 85 := by decide
theorem b51 : ∀ t, t < 4 → ∀ l, l < 64 → (64 * t + l) &&& 51 = l &&& 51 := by decide
theorem b15 : ∀ t, t < 16 → ∀ l, l < 16 → (16 * t + l) &&& 15 = l := by decide
theorem sA_split (k h l : Nat) (hl : l < 256) : sA (k + 1) (256 * h + l) = 256 * sA k h + sA 1 l := by
  unfold sA
  have e1 : m0 (k + 1) = 256 * m0 k + 85 := rfl
  have e2 : m0 1 = 85 := rfl
  rw [e1, e2, and_split h l _ 85 hl (by omega)]
  have e3 : (256 * h + l) / 2 = 256 * (h / 2) + (128 * (h % 2) + l / 2) := by omega
  rw [e3, and_split (h / 2) _ _ 85 (by omega) (by omega)]
  have e4 : (128 * (h % 2) + l / 2) &&& 85 = l / 2 &&& 85 := by
    rcases (show h % 2 = 0 ∨ h % 2 = 1 by omega) with e | e
    · rw [e]; simp
    · rw [e]; exact b85 (l / 2) (by omega)
  rw [e4]
  omega
theorem sB_split (k h l : Nat) (hl : l < 256) : sB (k + 1) (256 * h + l) = 256 * sB k h + sB 1 l := by
  unfold sB
  have e1 : m1 (k + 1) = 256 * m1 k + 51 := rfl
  have e2 : m1 1 = 51 := rfl
  rw [e1, e2, and_split h l _ 51 hl (by omega)]
  have e3 : (256 * h + l) / 4 = 256 * (h / 4) + (64 * (h % 4) + l / 4) := by omega
  rw [e3, and_split (h / 4) _ _ 51 (by omega) (by omega), b51 (h % 4) (by omega) (l / 4) (by omega)]
  omega
theorem sC_split (k h l : Nat) (hl : l % 16 + l / 16 < 16) (hl2 : l < 256) (hh : 16 * (h % 16) + l / 16 + l < 256) : sC (k + 1) (256 * h + l) = 256 * sC k h + sC 1 l := by
  unfold sC
  have e1 : m2 (k + 1) = 256 * m2 k + 15 := rfl
  have e2 : m2 1 = 15 := rfl
  rw [e1, e2]
  have e3 : (256 * h + l) / 16 + (256 * h + l) = 256 * (h / 16 + h) + (16 * (h % 16) + l / 16 + l) := by omega
  rw [e3, and_split _ _ _ 15 hh (by omega)]
  have e4 : 16 * (h % 16) + l / 16 + l = 16 * (h % 16 + l / 16) + (l / 16 + l % 16) := by omega
  have e5 : l / 16 + l = 16 * (l / 16) + (l / 16 + l % 16) := by omega
  rw [e4, e5, b15 (h % 16 + l / 16) (by omega) _ (by omega), b15 (l / 16) (by omega) _ (by omega)]
theorem byte_ok : ∀ l, l < 256 → sA 1 l < 256 ∧ sB 1 (sA 1 l) % 16 ≤ 4 ∧ sB 1 (sA 1 l) / 16 ≤ 4 ∧ sC 1 (sB 1 (sA 1 l)) = pcn 8 l := by decide +kernel
/-- The three steps are done byte by byte. -/
def T (k x : Nat) : Nat := sC k (sB k (sA k x))
theorem B_low (k x : Nat) : sB k (sA k x) % 16 ≤ 4 := by
  cases k with
  | zero => simp [sB, sA, m0, m1]
  | succ k =>
    have e : x = 256 * (x / 256) + x % 256 := by omega
    obtain ⟨h1, h2, h3, -⟩ := byte_ok (x % 256) (by omega)
    rw [e, sA_split k _ _ (by omega), sB_split k _ _ h1]
    omega
theorem T_split (k x : Nat) : T (k + 1) x = 256 * T k (x / 256) + pcn 8 x := by
  have e : x = 256 * (x / 256) + x % 256 := by omega
  obtain ⟨h1, h2, h3, h4⟩ := byte_ok (x % 256) (by omega)
  have hp : pcn 8 (x % 256) = pcn 8 x := pcn_mod 8 x
  have hb := B_low k (x / 256)
  unfold T
  conv => lhs; rw [e, sA_split k _ _ (by omega), sB_split k _ _ h1, sC_split k _ _ (by omega) (by omega) (by omega), h4, hp]
theorem pcn_le (n x : Nat) : pcn n x ≤ n := by
  have := List.countP_le_length (p := fun i => x.testBit i) (l := List.range n)
  rw [List.length_range] at this
  exact this
/-- Adding up the bytes. -/
theorem fold8 (p0 p1 p2 p3 p4 p5 p6 p7 y : Nat) (h0 : p0 ≤ 8) (h1 : p1 ≤ 8) (h2 : p2 ≤ 8) (h3 : p3 ≤ 8) (h4 : p4 ≤ 8) (h5 : p5 ≤ 8) (h6 : p6 ≤ 8) (h7 : p7 ≤ 8)
    (hy : y = 256 * (256 * (256 * (256 * (256 * (256 * (256 * p7 + p6) + p5) + p4) + p3) + p2) + p1) + p0) :
    (y + y / 256 + (y + y / 256) / 65536 + (y + y / 256 + (y + y / 256) / 65536) / 4294967296) % 128 = p0 + p1 + p2 + p3 + p4 + p5 + p6 + p7 ∧ y + y / 256 + (y + y / 256) / 65536 + (y + y / 256 + (y + y / 256) / 65536) / 4294967296 < 9223372036854775808 := by
  obtain ⟨z, hz⟩ : ∃ z, z = y + y / 256 := ⟨_, rfl⟩
  rw [← hz]
  obtain ⟨c0, e0⟩ : ∃ c, c = 256 * (p1 + p2) + (p0 + p1) := ⟨_, rfl⟩
  obtain ⟨c1, e1⟩ : ∃ c, c = 256 * (p3 + p4) + (p2 + p3) := ⟨_, rfl⟩
  obtain ⟨c2, e2⟩ : ∃ c, c = 256 * (p5 + p6) + (p4 + p5) := ⟨_, rfl⟩
  obtain ⟨c3, e3⟩ : ∃ c, c = 256 * p7 + (p6 + p7) := ⟨_, rfl⟩
  have hz2 : z = 65536 * (65536 * (65536 * c3 + c2) + c1) + c0 := by omega
  have s : c0 + c1 + c2 + c3 = 256 * (p1 + p2 + p3 + p4 + p5 + p6 + p7) + (p0 + p1 + p2 + p3 + p4 + p5 + p6 + p7) - 0 := by omega
  have l0 : c0 ≤ 4112 := by omega
  have l1 : c1 ≤ 4112 := by omega
  have l2 : c2 ≤ 4112 := by omega
  have l3 : c3 ≤ 4112 := by omega
  obtain ⟨t, ht⟩ : ∃ t, t = p0 + p1 + p2 + p3 + p4 + p5 + p6 + p7 := ⟨_, rfl⟩
  obtain ⟨t', ht'⟩ : ∃ t, t = p1 + p2 + p3 + p4 + p5 + p6 + p7 := ⟨_, rfl⟩
  have lt : t ≤ 64 := by omega
  rw [← ht, ← ht', Nat.sub_zero] at s
  rw [← ht]
  clear hz hy e0 e1 e2 e3 ht ht'
  have b : z / 65536 = 65536 * (65536 * c3 + c2) + c1 := by omega
  rw [b]
  obtain ⟨u, hu⟩ : ∃ u, u = z + (65536 * (65536 * c3 + c2) + c1) := ⟨_, rfl⟩
  rw [← hu]
  have hu2 : u = 4294967296 * (65536 * c3 + (c2 + c3)) + (65536 * (c1 + c2) + (c0 + c1)) := by omega
  clear hz2 b hu
  have c : u / 4294967296 = 65536 * c3 + (c2 + c3) := by omega
  rw [c, hu2]
  omega
theorem ones64 (x : Nat) : T 8 x = 256 * (256 * (256 * (256 * (256 * (256 * (256 * pcn 8 (x / 72057594037927936) + pcn 8 (x / 281474976710656)) + pcn 8 (x / 1099511627776)) + pcn 8 (x / 4294967296)) + pcn 8 (x / 16777216)) + pcn 8 (x / 65536)) + pcn 8 (x / 256)) + pcn 8 x := by
  have t0 : ∀ x, T 0 x = 0 := by intro x; simp [T, sC, m2]
  rw [T_split, T_split, T_split, T_split, T_split, T_split, T_split, T_split, t0]
  simp only [Nat.div_div_eq_div_mul, Nat.reduceMul]
  omega
theorem pcn64 (x : Nat) : pcn 64 x = pcn 8 x + pcn 8 (x / 256) + pcn 8 (x / 65536) + pcn 8 (x / 16777216) + pcn 8 (x / 4294967296) + pcn 8 (x / 1099511627776) + pcn 8 (x / 281474976710656) + pcn 8 (x / 72057594037927936) := by
  rw [show (64 : Nat) = 8 + (8 + (8 + (8 + (8 + (8 + (8 + 8)))))) from rfl]
  simp only [pcn_add, Nat.div_div_eq_div_mul, Nat.reduceMul, Nat.reducePow]
  omega
theorem m0_8 : m0 8 = 6148914691236517205 := by decide
theorem m1_8 : m1 8 = 3689348814741910323 := by decide
theorem m2_8 : m2 8 = 1085102592571150095 := by decide
end Go.Proofs.YtmhgpgdekaeegaaDoor.Bi
