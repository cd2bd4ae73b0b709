import Derived.Test.YtpdjpjkieafnbaaDoorProg
import Derived.Test.YtpdjpjkieafnbaaDoorLE7
import Derived.Test.YtpdjpjkieafnbaaDoorLE6
import Derived.Test.YtpdjpjkieafnbaaDoorShelf
import Derived.WalkKit
import Derived.WalkSpells
import Derived.WalkLawsBesides
import Derived.Laws.CopyOwn
import Derived.Deep.Draws
import Derived.Deep.QuietTactic
import Derived.BigQuiet
import Derived.Laws.MathBits
import Derived.Laws.BytesArg
import Derived.Lib.OthersKept
import Derived.Deep.RegionWith
import Derived.WalkMore
import Derived.Deep.LoopGhost
import Derived.Laws.Externs
set_option linter.unusedVariables false
set_option linter.unusedSimpArgs false
namespace Go.Proofs.YtpdjpjkieafnbaaDoor.Li
open Go.RowKit Lb
set_option maxRecDepth 100000 in
theorem binary64_any (w : World) : Calls Tryd.prog 13 #[] w fun e w' => e = .returned (.agg #[.int .i64 52, .int .i64 2047, .int .i64 (-1074)]) ∧ Keep w w' := by
  go_enter Tryd.func13, Tryd.ntmps13
  go_wp2_with fail
  refine bodyPost_ret (results_cell_row rfl _ _ w.heap.size 45 _ (0, 0) _ rfl (heap_alloc_new w _) Tryd.underlying45 rfl (by kernel_rfl)) rfl ?_
  exact ⟨rfl, (Keep.refl w).alloc _⟩
theorem signBit_any (w : World) : Calls Tryd.prog 25 #[.agg #[.int .i64 52, .int .i64 2047, .int .i64 (-1074)]] w fun e w' => e = .returned (.int .u64 9223372036854775808) ∧ Keep w w' := by
  go_enter Tryd.func25, Tryd.ntmps25
  go_wp2_with fail
  go_ret
  exact ⟨rfl, (Keep.refl w).alloc _⟩
theorem f64from (x : Nat) (w : World) : (callFunc 15 #[.int .u64 (x : Nat)]).run Tryd.prog w = .ok (.value (.float .f64 x)) w := by
  rw [run_callFunc_extern Tryd.func15 (by kernel_rfl) (by kernel_rfl) (by kernel_rfl) (e := Extern.MathFloatBits.float64frombits) (by kernel_rfl)]
  rfl
/-- A natural as a value, that can be read. -/
def Nv (w : World) (v : Value) (n : Nat) : Prop := ∃ a c l, v = .slice a l.length c ∧ l.length ≤ c ∧ Rd w a l ∧ Lim l ∧ Nrm l ∧ val l = n
theorem Nv.keep {w w' : World} {v : Value} {n : Nat} (h : Nv w v n) (k : Keep w w') : Nv w' v n := by
  obtain ⟨a, c, l, e, h1, h2, h3⟩ := h
  exact ⟨a, c, l, e, h1, h2.keep k, h3⟩
theorem len_of {l : List Nat} (hn : Nrm l) {k : Nat} (h : val l < 4294967296 ^ k) : l.length ≤ k := by
  by_cases e : l = []
  · subst e; simp
  · have h1 := val_ge hn e
    rcases Nat.lt_or_ge k l.length with h2 | h2
    · have h3 : 4294967296 ^ k ≤ 4294967296 ^ (l.length - 1) := Nat.pow_le_pow_right (by omega) (by omega)
      omega
    · exact h2
theorem word_pow (k : Nat) : (4294967296 : Nat) ^ k = 2 ^ (32 * k) := by rw [Nat.pow_mul]
/-- out = append(out, x). -/
theorem wpList_app32 {w0 wr : World} {ops : Array Oper} {rest : List Oper} {o : Oper} {a : Act} {Q : Exit → Act → World → Prop} (hgd : o.guard = none) (s x : Operand)
    (ho : o.op = .call { callee := .builtin .append, args := #[s, x], argTypes := #[27, 27] }) (l : List Nat) (v : Value) (hs : a.eval s = v) (Y : Int) (y : Nat) (hY : Y = (y : Int))
    (hx : a.eval x = .slice (some ⟨wr.heap.size, 0, none⟩) 1 1) (hown : Own w0.heap.size wr v l) (hk : Keep w0 wr) (hlen : l.length < 35184372088832)
    (hK : ∀ v' w1, Own w0.heap.size w1 v' (l ++ [y]) → Keep w0 w1 → wpList Tryd.prog ops Q rest (a.put o.dst v') w1) :
    wpList Tryd.prog ops Q (o :: rest) a (wr.alloc (.cells #[.int .u32 Y] 35)) := by
  obtain ⟨i0, hi, hz0, hz1, hz2⟩ := info_parts i62
  subst hY
  refine wpList_append_own _ hgd s x 27 ho w0.heap.size 35 i0 (.int .u32 0) 1 4 Tryd.underlying27 hi hz0 hz1 hz2 rfl (by decide) v _ _ hs (hown.alloc _) ⟨wr.heap.size, 0, none⟩ 1 1 [.int .u32 (y : Int)] hx rfl ?_ ?_ ?_ ?_ ?_ ?_
  · intro j u hj
    match j, hj with
    | 0, hj => simp at hj; subst hj; simp [Addr.add]
  · intro u hu; simp at hu; subst hu; rfl
  · simp only [maxLen]; omega
  · omega
  · have := hk.le; simp; omega
  · intro v' w1 h1 h2 _
    refine hK v' w1 ?_ ?_
    · unfold Own; simpa [U] using h1
    · refine Below.grown (hk.alloc _) h2 (by have := hk.le; simp; omega) ?_
      intro k hk'
      have := hown.lt k hk'
      exact this.1
theorem snoc_step (q : List Nat) (A t x y S X : Nat) (hq : 4294967296 ^ q.length = X) (hv : val q + t * X = A) (hS : S = A + (x + y) * X) : val (q ++ [(t + x + y) % 4294967296]) + (t + x + y) / 4294967296 * (X * 4294967296) = S := by
  have h := Nat.div_add_mod' (t + x + y) 4294967296
  have h2 : ((t + x + y) / 4294967296 * 4294967296 + (t + x + y) % 4294967296) * X = (t + x + y) * X := by rw [h]
  rw [val_snoc, hq]
  grind
theorem upStep (A1 A2 A3 x P : Nat) : A3 * (A1 * P) + x * P * (A1 * A2) = (A3 + x * A2) * (A1 * P) := by grind
end Go.Proofs.YtpdjpjkieafnbaaDoor.Li
set_option linter.unusedVariables false
set_option linter.unusedSimpArgs false
namespace Nr
/-- A quotient rounded to the nearest, of two that are as near to the even one. -/
def rup (x y : Nat) : Nat := if y < 2 * (x % y) ∨ 2 * (x % y) = y ∧ x / y % 2 = 1 then x / y + 1 else x / y
theorem div_ratio {X Y X' Y' : Nat} (hY : 0 < Y) (hY' : 0 < Y') (h : X * Y' = X' * Y) : X / Y = X' / Y' ∧ (X % Y) * Y' = (X' % Y') * Y := by
  have a := Nat.div_add_mod' X Y
  have b := Nat.mod_lt X hY
  have a' := Nat.div_add_mod' X' Y'
  have b' := Nat.mod_lt X' hY'
  have q : X / Y = X' / Y' := by
    have e1 : X / Y = X * Y' / (Y * Y') := (Nat.mul_div_mul_right _ _ hY').symm
    have e2 : X' / Y' = X' * Y / (Y' * Y) := (Nat.mul_div_mul_right _ _ hY).symm
    rw [e1, e2, h, Nat.mul_comm Y Y']
  refine ⟨q, ?_⟩
  have e1 : X * Y' = X / Y * Y * Y' + X % Y * Y' := by rw [← Nat.add_mul, a]
  have e2 : X' * Y = X' / Y' * Y' * Y + X' % Y' * Y := by rw [← Nat.add_mul, a']
  rw [h, e2, ← q, Nat.mul_assoc, Nat.mul_comm Y' Y, ← Nat.mul_assoc] at e1
  omega
theorem rup_ratio {X Y X' Y' : Nat} (hY : 0 < Y) (hY' : 0 < Y') (h : X * Y' = X' * Y) : rup X Y = rup X' Y' := by
  obtain ⟨q, r⟩ := div_ratio hY hY' h
  unfold rup
  rw [q]
  have r2 : 2 * (X % Y) * Y' = 2 * (X' % Y') * Y := by rw [Nat.mul_assoc, r, ← Nat.mul_assoc]
  have c1 : Y < 2 * (X % Y) ↔ Y' < 2 * (X' % Y') := by
    rw [← Nat.mul_lt_mul_right (a := Y') hY', r2, Nat.mul_comm Y Y', Nat.mul_lt_mul_right hY]
  have c2 : 2 * (X % Y) = Y ↔ 2 * (X' % Y') = Y' := by
    constructor
    · intro e
      rw [e, Nat.mul_comm Y Y'] at r2
      exact (Nat.eq_of_mul_eq_mul_right hY r2).symm
    · intro e
      rw [e, Nat.mul_comm Y' Y] at r2
      exact Nat.eq_of_mul_eq_mul_right hY' r2
  simp only [c1, c2]
theorem or_one (q : Nat) : q ||| 1 = q / 2 * 2 + 1 := by
  have h := Nat.two_pow_add_eq_or_of_lt (i := 1) (b := q % 2) (by omega) (q / 2)
  have e : 2 ^ 1 * (q / 2) + q % 2 = q := by omega
  rw [e] at h
  rcases Nat.mod_two_eq_zero_or_one q with g | g
  · have h1 := Nat.two_pow_add_eq_or_of_lt (i := 1) (b := 1) (by omega) (q / 2)
    have e1 : 2 ^ 1 * (q / 2) = q := by omega
    rw [e1] at h1
    omega
  · have h1 : q = 2 ^ 1 * (q / 2) ||| 1 := by rw [g] at h; exact h
    have h2 : q ||| 1 = q := by
      rw [h1, Nat.or_assoc, Nat.or_self]
    omega
theorem sticky {q b r p : Nat} (hp : 0 < p) (hr : r < b) : rup (if r = 0 then q else q ||| 1) (4 * p) = rup (q * b + r) (b * (4 * p)) := by
  have hb : 0 < b := by omega
  have h4 : 0 < 4 * p := by omega
  obtain ⟨k, l, hl, hq⟩ : ∃ k l, l < 4 * p ∧ q = 4 * p * k + l := ⟨q / (4 * p), q % (4 * p), Nat.mod_lt _ h4, (Nat.div_add_mod q (4 * p)).symm⟩
  have hlr : l * b + r < b * (4 * p) := by
    have := Nat.mul_le_mul_right b (show l + 1 ≤ 4 * p from hl)
    rw [Nat.add_mul, Nat.mul_comm (4 * p) b] at this
    omega
  have e1 : q * b + r = b * (4 * p) * k + (l * b + r) := by rw [hq, Nat.add_mul]; grind
  have d1 : (q * b + r) / (b * (4 * p)) = k := by
    rw [e1, Nat.mul_add_div (Nat.mul_pos hb h4), Nat.div_eq_of_lt hlr, Nat.add_zero]
  have m1 : (q * b + r) % (b * (4 * p)) = l * b + r := by
    rw [e1, Nat.mul_add_mod, Nat.mod_eq_of_lt hlr]
  have cmp1 : b * (4 * p) < 2 * (l * b + r) ↔ 2 * p < l ∨ (2 * p = l ∧ 0 < r) := by
    rw [show b * (4 * p) = 2 * ((2 * p) * b) by grind]
    rcases Nat.lt_trichotomy l (2 * p) with g | g | g
    · have := Nat.mul_le_mul_right b (show l + 1 ≤ 2 * p from g)
      rw [Nat.add_mul] at this
      omega
    · rw [g]; omega
    · have := Nat.mul_le_mul_right b (show 2 * p + 1 ≤ l from g)
      rw [Nat.add_mul] at this
      omega
  have cmp2 : 2 * (l * b + r) = b * (4 * p) ↔ l = 2 * p ∧ r = 0 := by
    rw [show b * (4 * p) = 2 * ((2 * p) * b) by grind]
    rcases Nat.lt_trichotomy l (2 * p) with g | g | g
    · have := Nat.mul_le_mul_right b (show l + 1 ≤ 2 * p from g)
      rw [Nat.add_mul] at this
      omega
    · rw [g]; omega
    · have := Nat.mul_le_mul_right b (show 2 * p + 1 ≤ l from g)
      rw [Nat.add_mul] at this
      omega
  have hrhs : rup (q * b + r) (b * (4 * p)) = if (2 * p < l ∨ (2 * p = l ∧ 0 < r)) ∨ (l = 2 * p ∧ r = 0) ∧ k % 2 = 1 then k + 1 else k := by
    unfold rup
    rw [d1, m1]
    simp only [cmp1, cmp2]
  rw [hrhs]
  by_cases h0 : r = 0
  · rw [if_pos h0]
    have d2 : q / (4 * p) = k := by rw [hq, Nat.mul_add_div h4, Nat.div_eq_of_lt hl, Nat.add_zero]
    have m2 : q % (4 * p) = l := by rw [hq, Nat.mul_add_mod, Nat.mod_eq_of_lt hl]
    unfold rup
    rw [d2, m2]
    congr 1
    apply propext
    omega
  · rw [if_neg h0, or_one]
    have e2 : q / 2 * 2 + 1 = 4 * p * k + (l / 2 * 2 + 1) := by
      have : 4 * p * k = 2 * (2 * p * k) := by grind
      omega
    have d2 : (q / 2 * 2 + 1) / (4 * p) = k := by rw [e2, Nat.mul_add_div h4, Nat.div_eq_of_lt (by omega), Nat.add_zero]
    have m2 : (q / 2 * 2 + 1) % (4 * p) = l / 2 * 2 + 1 := by rw [e2, Nat.mul_add_mod, Nat.mod_eq_of_lt (by omega)]
    unfold rup
    rw [d2, m2]
    congr 1
    apply propext
    omega
/-- Numerator and denominator, scaled. -/
def sA (N : Nat) (e : Int) : Nat := N * 2 ^ (-e).toNat
def sB (D : Nat) (e : Int) : Nat := D * 2 ^ e.toNat
theorem sB_pos {D : Nat} (h : 0 < D) (e : Int) : 0 < sB D e := Nat.mul_pos h (Nat.two_pow_pos _)
theorem ratio (N D : Nat) (e : Int) (d : Nat) : sA N (e + d) * (sB D e * 2 ^ d) = sA N e * sB D (e + d) := by
  unfold sA sB
  have h : (-(e + d)).toNat + (e.toNat + d) = (-e).toNat + (e + d).toNat := by omega
  have h2 : (2 : Nat) ^ (-(e + d)).toNat * (2 ^ e.toNat * 2 ^ d) = 2 ^ (-e).toNat * 2 ^ (e + d).toNat := by
    rw [← Nat.pow_add, ← Nat.pow_add, ← Nat.pow_add, h]
  generalize (2 : Nat) ^ (-(e + d)).toNat = a at *
  generalize (2 : Nat) ^ e.toNat = b at *
  generalize (2 : Nat) ^ d = c at *
  generalize (2 : Nat) ^ (-e).toNat = f at *
  generalize (2 : Nat) ^ (e + d).toNat = g at *
  have : N * a * (D * b * c) = N * D * (a * (b * c)) := by grind
  rw [this, h2]
  grind
def fl (N D : Nat) (e : Int) : Nat := sA N e / sB D e
theorem fl_add {N D : Nat} (hD : 0 < D) (e : Int) (d : Nat) : fl N D (e + d) = fl N D e / 2 ^ d := by
  have h := (div_ratio (sB_pos hD (e + d)) (Nat.mul_pos (sB_pos hD e) (Nat.two_pow_pos d)) (ratio N D e d)).1
  unfold fl
  rw [h, Nat.div_div_eq_div_mul]
theorem rup_add {N D : Nat} (hD : 0 < D) (e : Int) (d : Nat) : rup (sA N (e + d)) (sB D (e + d)) = rup (sA N e) (sB D e * 2 ^ d) :=
  rup_ratio (sB_pos hD _) (Nat.mul_pos (sB_pos hD e) (Nat.two_pow_pos d)) (ratio N D e d)
/-- The exponent that a quotient has. -/
def IsE (N D : Nat) (e : Int) : Prop := -1074 ≤ e ∧ fl N D e < 9007199254740992 ∧ (e = -1074 ∨ 9007199254740992 ≤ fl N D (e - 1))
theorem isE_one {N D : Nat} (hD : 0 < D) {e f : Int} (h : IsE N D e) (g : IsE N D f) : e = f := by
  have key : ∀ a b : Int, IsE N D a → IsE N D b → ¬ a < b := by
    intro a b ha hb hlt
    obtain ⟨d, hd⟩ : ∃ d : Nat, b - 1 = a + d := ⟨(b - 1 - a).toNat, by omega⟩
    rcases hb.2.2 with h1 | h1
    · have := ha.1; omega
    · rw [hd, fl_add hD] at h1
      have h2 := Nat.div_le_self (fl N D a) (2 ^ d)
      have := ha.2.1
      omega
  have := key e f h g
  have := key f e g h
  omega
theorem rup_le (x y : Nat) : x / y ≤ rup x y ∧ rup x y ≤ x / y + 1 := by
  unfold rup
  split <;> omega
/-- The bits of a mantissa and an exponent, without a sign. -/
def wb (M : Nat) (E : Int) : Nat := min (if 4503599627370496 ≤ M then M + (E + 1074).toNat * 4503599627370496 else M) 9218868437227405312
/-- As the reference puts them together. -/
def rM (M : Nat) : Nat := if M = 9007199254740992 then 4503599627370496 else M
def rE (M : Nat) (E : Int) : Int := if M = 9007199254740992 then E + 1 else E
def rb (M : Nat) (E : Int) : Nat := if 971 < rE M E then 9218868437227405312 else if 4503599627370496 ≤ rM M then (rE M E + 1075).toNat * 4503599627370496 + (rM M - 4503599627370496) else rM M
theorem small_E {N D : Nat} (hD : 0 < D) {e : Int} (h : IsE N D e) : rup (sA N e) (sB D e) ≤ 9007199254740992 ∧ (rup (sA N e) (sB D e) < 4503599627370496 → e = -1074) := by
  obtain ⟨a, b, c⟩ := h
  have r := rup_le (sA N e) (sB D e)
  unfold fl at b
  refine ⟨by omega, fun hs => ?_⟩
  rcases c with c | c
  · exact c
  · exfalso
    have := fl_add hD (e - 1) 1 (N := N)
    rw [show e - 1 + (1 : Nat) = e by omega] at this
    unfold fl at this c
    omega
end Nr
set_option linter.unusedVariables false
set_option linter.unusedSimpArgs false
namespace Go.Proofs.YtpdjpjkieafnbaaDoor.Li
open Go.RowKit Lb
theorem nl_nrm {l : List Nat} (h : Nrm l) : nl l = l.length := by
  rcases l.eq_nil_or_concat with rfl | ⟨L, x, rfl⟩
  · rfl
  · have hx : x ≠ 0 := by simpa [Nrm] using h
    refine nl_eq _ _ ?_ ?_
    · intro j hj
      rw [List.getD_eq_getElem?_getD, List.getElem?_eq_none hj]; rfl
    · intro _
      simpa [List.getD] using hx
/-- How many binary digits a number has. -/
def sz (n : Nat) : Nat := if n = 0 then 0 else n.log2 + 1
theorem sz_of {n s : Nat} (h1 : 2 ^ s ≤ n) (h2 : n < 2 ^ (s + 1)) : sz n = s + 1 := by
  have h0 : n ≠ 0 := by have := Nat.two_pow_pos s; omega
  unfold sz
  rw [if_neg h0]
  congr 1
  have a := Nat.log2_self_le h0
  have b : n < 2 ^ (n.log2 + 1) := Nat.lt_log2_self
  have c := (Nat.pow_lt_pow_iff_right (a := 2) (by omega)).1 (Nat.lt_of_le_of_lt a h2)
  have d := (Nat.pow_lt_pow_iff_right (a := 2) (by omega)).1 (Nat.lt_of_le_of_lt h1 b)
  omega
theorem sz_lenB {l : List Nat} (hm : Lim l) (hn : Nrm l) : lenB l = sz (val l) := by
  have h1 := nl_nrm hn
  by_cases h0 : nl l = 0
  · have : l = [] := List.length_eq_zero_iff.1 (by omega)
    subst this
    rfl
  · have a := val_lt_len l hm
    have b := val_ge_len l h0
    have c : 0 < lenB l := by
      rcases Nat.eq_zero_or_pos (lenB l) with h | h
      · rw [h] at a b
        simp at a b
        omega
      · exact h
    obtain ⟨s, hs⟩ : ∃ s, lenB l = s + 1 := ⟨lenB l - 1, by omega⟩
    rw [hs] at a b ⊢
    exact (sz_of b a).symm
theorem sz_lt (n : Nat) : n < 2 ^ sz n := by
  unfold sz
  split
  · rename_i h; subst h; decide
  · exact Nat.lt_log2_self
theorem sz_ge {n : Nat} (h : 0 < n) : 2 ^ (sz n - 1) ≤ n ∧ 0 < sz n := by
  unfold sz
  rw [if_neg (by omega)]
  exact ⟨Nat.log2_self_le (by omega), by omega⟩
theorem sz_le {n k : Nat} (h : n < 2 ^ k) : sz n ≤ k := by
  rcases Nat.eq_zero_or_pos n with h0 | h0
  · subst h0; unfold sz; simp
  · have a := (sz_ge h0).1
    have b := (Nat.pow_lt_pow_iff_right (a := 2) (by omega)).1 (Nat.lt_of_le_of_lt a h)
    omega
theorem Nv.few {w : World} {v : Value} {n k : Nat} (h : Nv w v n) (hn : n < 4294967296 ^ k) : ∃ a c l, v = .slice a l.length c ∧ l.length ≤ c ∧ Rd w a l ∧ Lim l ∧ Nrm l ∧ val l = n ∧ l.length ≤ k := by
  obtain ⟨a, c, l, e, h1, h2, h3, h4, h5⟩ := h
  exact ⟨a, c, l, e, h1, h2, h3, h4, h5, len_of h4 (by rw [h5]; exact hn)⟩
/-- One step of the difference. -/
theorem subStepB (q A B' P x y d : Nat) (c c' t : Int) (hv : (q : Int) + c * (P : Int) = (A : Int) - (B' : Int)) (ht : t = c + x - y) (hd : t = d + 4294967296 * c') :
    ((q + P * d : Nat) : Int) + c' * ((P * 4294967296 : Nat) : Int) = ((A + x * P : Nat) : Int) - ((B' + y * P : Nat) : Int) := by
  simp only [Int.natCast_add, Int.natCast_mul]
  have h1 : (d : Int) = c + x - y - 4294967296 * c' := by omega
  rw [h1]
  generalize (P : Int) = p at *
  grind
/-- A bit put into a number that has none from there down. -/
theorem or_bit {Q z : Nat} (hz : z ≤ 64) (hd : 2 ^ (z + 1) ∣ Q) : Q % 18446744073709551616 ||| (2 ^ z % 18446744073709551616) = (Q + 2 ^ z) % 18446744073709551616 := by
  rcases Nat.lt_or_ge z 64 with h | h
  · obtain ⟨m, rfl⟩ := hd
    have e : (18446744073709551616 : Nat) = 2 ^ (z + 1) * 2 ^ (63 - z) := by rw [← Nat.pow_add, show z + 1 + (63 - z) = 64 by omega]
    have h1 : 2 ^ z < 18446744073709551616 := Nat.lt_of_lt_of_le (Nat.pow_lt_pow_right (a := 2) (by omega) h) (by decide)
    have h2 : 2 ^ (z + 1) * m % 18446744073709551616 = 2 ^ (z + 1) * (m % 2 ^ (63 - z)) := by rw [e, Nat.mul_mod_mul_left]
    have hlt : 2 ^ z < 2 ^ (z + 1) := Nat.pow_lt_pow_right (by omega) (by omega)
    rw [Nat.mod_eq_of_lt h1, h2, ← Nat.two_pow_add_eq_or_of_lt hlt, Nat.add_mod, h2, Nat.mod_eq_of_lt h1]
    refine (Nat.mod_eq_of_lt ?_).symm
    have h3 : m % 2 ^ (63 - z) + 1 ≤ 2 ^ (63 - z) := Nat.mod_lt _ (Nat.two_pow_pos _)
    have h4 := Nat.mul_le_mul_left (2 ^ (z + 1)) h3
    rw [← e, Nat.mul_add, Nat.mul_one] at h4
    omega
  · have : z = 64 := by omega
    subst this
    rw [show (2 : Nat) ^ 64 = 18446744073709551616 from rfl]
    simp
theorem shr1 (z : Nat) (hz : z ≤ 64) : IntKind.u64.wrap ((2 : Int) ^ z) = ((2 ^ z % 18446744073709551616 : Nat) : Int) := by
  have e : (2 : Int) ^ z = ((2 ^ z : Nat) : Int) := (Int.natCast_pow 2 z).symm
  rw [IntKind.wrap_u64, e]
  omega
end Go.Proofs.YtpdjpjkieafnbaaDoor.Li
