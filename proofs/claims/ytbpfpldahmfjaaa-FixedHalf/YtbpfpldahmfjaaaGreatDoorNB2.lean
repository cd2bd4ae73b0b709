import Derived.Test.YtbpfpldahmfjaaaGreatDoorProg
import Derived.Test.YtbpfpldahmfjaaaGreatDoorLF5
import Derived.Test.YtbpfpldahmfjaaaGreatDoorLE3
import Derived.Test.YtbpfpldahmfjaaaGreatDoorLC18
import Derived.Test.YtbpfpldahmfjaaaGreatDoorLC6
import Derived.Test.YtbpfpldahmfjaaaGreatDoorLD6
import Derived.WalkKit
import Derived.WalkSpells
import Derived.WalkLawsBesides
import Derived.Laws.CopyOwn
import Derived.Deep.Draws
import Derived.Deep.QuietTactic
import Derived.BigQuiet
import Derived.Laws.MathBits
import Derived.Laws.BytesArg
import Derived.Lib.OthersKept
import Derived.Deep.RegionWith
import Derived.WalkMore
import Derived.Deep.LoopGhost
import Derived.Laws.Externs
set_option linter.unusedVariables false
set_option linter.unusedSimpArgs false
namespace Go.Proofs.YtbpfpldahmfjaaaGreatDoor.Li
open Go.RowKit Lb
set_option maxRecDepth 100000 in
theorem binary64_any (w : World) : Calls Tryz.prog 69 #[] w fun e w' => e = .returned (.agg #[.int .i64 52, .int .i64 2047, .int .i64 (-1074)]) ∧ Keep w w' := by
  go_enter Tryz.func69, Tryz.ntmps69
  go_wp2_with fail
  refine bodyPost_ret (results_cell_row rfl _ _ w.heap.size 106 _ (0, 0) _ rfl (heap_alloc_new w _) Tryz.underlying106 rfl (by kernel_rfl)) rfl ?_
  exact ⟨rfl, (Keep.refl w).alloc _⟩
theorem signBit_any (w : World) : Calls Tryz.prog 71 #[.agg #[.int .i64 52, .int .i64 2047, .int .i64 (-1074)]] w fun e w' => e = .returned (.int .u64 9223372036854775808) ∧ Keep w w' := by
  go_enter Tryz.func71, Tryz.ntmps71
  go_wp2_with fail
  go_ret
  exact ⟨rfl, (Keep.refl w).alloc _⟩
theorem f64from (x : Nat) (w : World) : (callFunc 72 #[.int .u64 (x : Nat)]).run Tryz.prog w = .ok (.value (.float .f64 x)) w := by
  rw [run_callFunc_extern Tryz.func72 (by kernel_rfl) (by kernel_rfl) (by kernel_rfl) (e := Extern.MathFloatBits.float64frombits) (by kernel_rfl)]
  rfl
/-- A natural as a value, that can be read. -/
def Nv (w : World) (v : Value) (n : Nat) : Prop := ∃ a c l, v = .slice a l.length c ∧ l.length ≤ c ∧ Rd w a l ∧ Lim l ∧ Nrm l ∧ val l = n
theorem Nv.keep {w w' : World} {v : Value} {n : Nat} (h : Nv w v n) (k : Keep w w') : Nv w' v n := by
  obtain ⟨a, c, l, e, h1, h2, h3⟩ := h
  exact ⟨a, c, l, e, h1, h2.keep k, h3⟩
theorem len_of {l : List Nat} (hn : Nrm l) {k : Nat} (h : val l < 4294967296 ^ k) : l.length ≤ k := by
  by_cases e : l = []
  · subst e; simp
  · have h1 := val_ge hn e
    rcases Nat.lt_or_ge k l.length with h2 | h2
    · have h3 : 4294967296 ^ k ≤ 4294967296 ^ (l.length - 1) := Nat.pow_le_pow_right (by omega) (by omega)
      omega
    · exact h2
theorem word_pow (k : Nat) : (4294967296 : Nat) ^ k = 2 ^ (32 * k) := by rw [Nat.pow_mul]
end Go.Proofs.YtbpfpldahmfjaaaGreatDoor.Li
set_option linter.unusedVariables false
set_option linter.unusedSimpArgs false
namespace Nr
/-- A quotient rounded to the nearest, of two that are as near to the even one. -/
def rup (x y : Nat) : Nat := if y < 2 * (x % y) ∨ 2 * (x % y) = y ∧ x / y % 2 = 1 then x / y + 1 else x / y
theorem div_ratio {X Y X' Y' : Nat} (hY : 0 < Y) (hY' : 0 < Y') (h : X * Y' = X' * Y) : X / Y = X' / Y' ∧ (X % Y) * Y' = (X' % Y') * Y := by
  have a := Nat.div_add_mod' X Y
  have b := Nat.mod_lt X hY
  have a' := Nat.div_add_mod' X' Y'
  have b' := Nat.mod_lt X' hY'
  have q : X / Y = X' / Y' := by
    have e1 : X / Y = X * Y' / (Y * Y') := (Nat.mul_div_mul_right _ _ hY').symm
    have e2 : X' / Y' = X' * Y / (Y' * Y) := (Nat.mul_div_mul_right _ _ hY).symm
    rw [e1, e2, h, Nat.mul_comm Y Y']
  refine ⟨q, ?_⟩
  have e1 : X * Y' = X / Y * Y * Y' + X % Y * Y' := by rw [← Nat.add_mul, a]
  have e2 : X' * Y = X' / Y' * Y' * Y + X' % Y' * Y := by rw [← Nat.add_mul, a']
  rw [h, e2, ← q, Nat.mul_assoc, Nat.mul_comm Y' Y, ← Nat.mul_assoc] at e1
  omega
theorem rup_ratio {X Y X' Y' : Nat} (hY : 0 < Y) (hY' : 0 < Y') (h : X * Y' = X' * Y) : rup X Y = rup X' Y' := by
  obtain ⟨q, r⟩ := div_ratio hY hY' h
  unfold rup
  rw [q]
  have r2 : 2 * (X % Y) * Y' = 2 * (X' % Y') * Y := by rw [Nat.mul_assoc, r, ← Nat.mul_assoc]
  have c1 : Y < 2 * (X % Y) ↔ Y' < 2 * (X' % Y') := by
    rw [← Nat.mul_lt_mul_right (a := Y') hY', r2, Nat.mul_comm Y Y', Nat.mul_lt_mul_right hY]
  have c2 : 2 * (X % Y) = Y ↔ 2 * (X' % Y') = Y' := by
    constructor
    · intro e
      rw [e, Nat.mul_comm Y Y'] at r2
      exact (Nat.eq_of_mul_eq_mul_right hY r2).symm
    · intro e
      rw [e, Nat.mul_comm Y' Y] at r2
      exact Nat.eq_of_mul_eq_mul_right hY' r2
  simp only [c1, c2]
theorem or_one (q : Nat) : q ||| 1 = q / 2 * 2 + 1 := by
  have h := Nat.two_pow_add_eq_or_of_lt (i := 1) (b := q % 2) (by omega) (q / 2)
  have e : 2 ^ 1 * (q / 2) + q % 2 = q := by omega
  rw [e] at h
  rcases Nat.mod_two_eq_zero_or_one q with g | g
  · have h1 := Nat.two_pow_add_eq_or_of_lt (i := 1) (b := 1) (by omega) (q / 2)
    have e1 : 2 ^ 1 * (q / 2) = q := by omega
    rw [e1] at h1
    omega
  · have h1 : q = 2 ^ 1 * (q / 2) ||| 1 := by rw [g] at h; exact h
    have h2 : q ||| 1 = q := by
      rw [h1, Nat.or_assoc, Nat.or_self]
    omega
theorem sticky {q b r p : Nat} (hp : 0 < p) (hr : r < b) : rup (if r = 0 then q else q ||| 1) (4 * p) = rup (q * b + r) (b * (4 * p)) := by
  have hb : 0 < b := by omega
  have h4 : 0 < 4 * p := by omega
  obtain ⟨k, l, hl, hq⟩ : ∃ k l, l < 4 * p ∧ q = 4 * p * k + l := ⟨q / (4 * p), q % (4 * p), Nat.mod_lt _ h4, (Nat.div_add_mod q (4 * p)).symm⟩
  have hlr : l * b + r < b * (4 * p) := by
    have := Nat.mul_le_mul_right b (show l + 1 ≤ 4 * p from hl)
    rw [Nat.add_mul, Nat.mul_comm (4 * p) b] at this
    omega
  have e1 : q * b + r = b * (4 * p) * k + (l * b + r) := by rw [hq, Nat.add_mul]; grind
  have d1 : (q * b + r) / (b * (4 * p)) = k := by
    rw [e1, Nat.mul_add_div (Nat.mul_pos hb h4), Nat.div_eq_of_lt hlr, Nat.add_zero]
  have m1 : (q * b + r) % (b * (4 * p)) = l * b + r := by
    rw [e1, Nat.mul_add_mod, Nat.mod_eq_of_lt hlr]
  have cmp1 : b * (4 * p) < 2 * (l * b + r) ↔ 2 * p < l ∨ (2 * p = l ∧ 0 < r) := by
    rw [show b * (4 * p) = 2 * ((2 * p) * b) by grind]
    rcases Nat.lt_trichotomy l (2 * p) with g | g | g
    · have := Nat.mul_le_mul_right b (show l + 1 ≤ 2 * p from g)
      rw [Nat.add_mul] at this
      omega
    · rw [g]; omega
    · have := Nat.mul_le_mul_right b (show 2 * p + 1 ≤ l from g)
      rw [Nat.add_mul] at this
      omega
  have cmp2 : 2 * (l * b + r) = b * (4 * p) ↔ l = 2 * p ∧ r = 0 := by
    rw [show b * (4 * p) = 2 * ((2 * p) * b) by grind]
    rcases Nat.lt_trichotomy l (2 * p) with g | g | g
    · have := Nat.mul_le_mul_right b (show l + 1 ≤ 2 * p from g)
      rw [Nat.add_mul] at this
      omega
    · rw [g]; omega
    · have := Nat.mul_le_mul_right b (show 2 * p + 1 ≤ l from g)
      rw [Nat.add_mul] at this
      omega
  have hrhs : rup (q * b + r) (b * (4 * p)) = if (2 * p < l ∨ (2 * p = l ∧ 0 < r)) ∨ (l = 2 * p ∧ r = 0) ∧ k % 2 = 1 then k + 1 else k := by
    unfold rup
    rw [d1, m1]
    simp only [cmp1, cmp2]
  rw [hrhs]
  by_cases h0 : r = 0
  · rw [if_pos h0]
    have d2 : q / (4 * p) = k := by rw [hq, Nat.mul_add_div h4, Nat.div_eq_of_lt hl, Nat.add_zero]
    have m2 : q % (4 * p) = l := by rw [hq, Nat.mul_add_mod, Nat.mod_eq_of_lt hl]
    unfold rup
    rw [d2, m2]
    congr 1
    apply propext
    omega
  · rw [if_neg h0, or_one]
    have e2 : q / 2 * 2 + 1 = 4 * p * k + (l / 2 * 2 + 1) := by
      have : 4 * p * k = 2 * (2 * p * k) := by grind
      omega
    have d2 : (q / 2 * 2 + 1) / (4 * p) = k := by rw [e2, Nat.mul_add_div h4, Nat.div_eq_of_lt (by omega), Nat.add_zero]
    have m2 : (q / 2 * 2 + 1) % (4 * p) = l / 2 * 2 + 1 := by rw [e2, Nat.mul_add_mod, Nat.mod_eq_of_lt (by omega)]
    unfold rup
    rw [d2, m2]
    congr 1
    apply propext
    omega
/-- Numerator and denominator, scaled. -/
def sA (N : Nat) (e : Int) : Nat := N * 2 ^ (-e).toNat
def sB (D : Nat) (e : Int) : Nat := D * 2 ^ e.toNat
theorem sB_pos {D : Nat} (h : 0 < D) (e : Int) : 0 < sB D e := Nat.mul_pos h (Nat.two_pow_pos _)
theorem ratio (N D : Nat) (e : Int) (d : Nat) : sA N (e + d) * (sB D e * 2 ^ d) = sA N e * sB D (e + d) := by
  unfold sA sB
  have h : (-(e + d)).toNat + (e.toNat + d) = (-e).toNat + (e + d).toNat := by omega
  have h2 : (2 : Nat) ^ (-(e + d)).toNat * (2 ^ e.toNat * 2 ^ d) = 2 ^ (-e).toNat * 2 ^ (e + d).toNat := by
    rw [← Nat.pow_add, ← Nat.pow_add, ← Nat.pow_add, h]
  generalize (2 : Nat) ^ (-(e + d)).toNat = a at *
  generalize (2 : Nat) ^ e.toNat = b at *
  generalize (2 : Nat) ^ d = c at *
  generalize (2 : Nat) ^ (-e).toNat = f at *
  generalize (2 : Nat) ^ (e + d).toNat = g at *
  have : N * a * (D * b * c) = N * D * (a * (b * c)) := by grind
  rw [this, h2]
  grind
def fl (N D : Nat) (e : Int) : Nat := sA N e / sB D e
theorem fl_add {N D : Nat} (hD : 0 < D) (e : Int) (d : Nat) : fl N D (e + d) = fl N D e / 2 ^ d := by
  have h := (div_ratio (sB_pos hD (e + d)) (Nat.mul_pos (sB_pos hD e) (Nat.two_pow_pos d)) (ratio N D e d)).1
  unfold fl
  rw [h, Nat.div_div_eq_div_mul]
theorem rup_add {N D : Nat} (hD : 0 < D) (e : Int) (d : Nat) : rup (sA N (e + d)) (sB D (e + d)) = rup (sA N e) (sB D e * 2 ^ d) :=
  rup_ratio (sB_pos hD _) (Nat.mul_pos (sB_pos hD e) (Nat.two_pow_pos d)) (ratio N D e d)
/-- The exponent that a quotient has. -/
def IsE (N D : Nat) (e : Int) : Prop := -1074 ≤ e ∧ fl N D e < 9007199254740992 ∧ (e = -1074 ∨ 9007199254740992 ≤ fl N D (e - 1))
theorem isE_one {N D : Nat} (hD : 0 < D) {e f : Int} (h : IsE N D e) (g : IsE N D f) : e = f := by
  have key : ∀ a b : Int, IsE N D a → IsE N D b → ¬ a < b := by
    intro a b ha hb hlt
    obtain ⟨d, hd⟩ : ∃ d : Nat, b - 1 = a + d := ⟨(b - 1 - a).toNat, by omega⟩
    rcases hb.2.2 with h1 | h1
    · have := ha.1; omega
    · rw [hd, fl_add hD] at h1
      have h2 := Nat.div_le_self (fl N D a) (2 ^ d)
      have := ha.2.1
      omega
  have := key e f h g
  have := key f e g h
  omega
theorem rup_le (x y : Nat) : x / y ≤ rup x y ∧ rup x y ≤ x / y + 1 := by
  unfold rup
  split <;> omega
/-- The bits of a mantissa and an exponent, without a sign. -/
def wb (M : Nat) (E : Int) : Nat := min (if 4503599627370496 ≤ M then M + (E + 1074).toNat * 4503599627370496 else M) 9218868437227405312
theorem small_E {N D : Nat} (hD : 0 < D) {e : Int} (h : IsE N D e) : rup (sA N e) (sB D e) ≤ 9007199254740992 ∧ (rup (sA N e) (sB D e) < 4503599627370496 → e = -1074) := by
  obtain ⟨a, b, c⟩ := h
  have r := rup_le (sA N e) (sB D e)
  unfold fl at b
  refine ⟨by omega, fun hs => ?_⟩
  rcases c with c | c
  · exact c
  · exfalso
    have := fl_add hD (e - 1) 1 (N := N)
    rw [show e - 1 + (1 : Nat) = e by omega] at this
    unfold fl at this c
    omega
end Nr
set_option linter.unusedVariables false
set_option linter.unusedSimpArgs false
namespace Go.Proofs.YtbpfpldahmfjaaaGreatDoor.Li
open Go.RowKit Lb
/-- How many binary digits a number has. -/
def sz (n : Nat) : Nat := if n = 0 then 0 else n.log2 + 1
theorem sz_of {n s : Nat} (h1 : 2 ^ s ≤ n) (h2 : n < 2 ^ (s + 1)) : sz n = s + 1 := by
  have h0 : n ≠ 0 := by have := Nat.two_pow_pos s; omega
  unfold sz
  rw [if_neg h0]
  congr 1
  have a := Nat.log2_self_le h0
  have b : n < 2 ^ (n.log2 + 1) := Nat.lt_log2_self
  have c := (Nat.pow_lt_pow_iff_right (a := 2) (by omega)).1 (Nat.lt_of_le_of_lt a h2)
  have d := (Nat.pow_lt_pow_iff_right (a := 2) (by omega)).1 (Nat.lt_of_le_of_lt h1 b)
  omega
theorem sz_lt (n : Nat) : n < 2 ^ sz n := by
  unfold sz
  split
  · rename_i h; subst h; decide
  · exact Nat.lt_log2_self
theorem sz_ge {n : Nat} (h : 0 < n) : 2 ^ (sz n - 1) ≤ n ∧ 0 < sz n := by
  unfold sz
  rw [if_neg (by omega)]
  exact ⟨Nat.log2_self_le (by omega), by omega⟩
theorem sz_le {n k : Nat} (h : n < 2 ^ k) : sz n ≤ k := by
  rcases Nat.eq_zero_or_pos n with h0 | h0
  · subst h0; unfold sz; simp
  · have a := (sz_ge h0).1
    have b := (Nat.pow_lt_pow_iff_right (a := 2) (by omega)).1 (Nat.lt_of_le_of_lt a h)
    omega
end Go.Proofs.YtbpfpldahmfjaaaGreatDoor.Li
