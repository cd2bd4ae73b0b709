import Derived.Test.YtpdjpjkieafnbaaGreatDoorZ8
import Derived.Test.YtpdjpjkieafnbaaGreatDoorR14
import Derived.Test.YtpdjpjkieafnbaaGreatDoorSB1
import Derived.Test.YtpdjpjkieafnbaaGreatDoorZA
import Ieee.Arith
set_option linter.unusedVariables false
set_option linter.unusedSimpArgs false
namespace Go.Proofs.YtpdjpjkieafnbaaGreatDoor.Li
open Go.RowKit Lb Nr
set_option maxRecDepth 100000 in
set_option maxHeartbeats 400000 in
/-- A text that is too long. -/
theorem read_long (x y z : Int) (s : List UInt8) (w : World) (hs : 4096 < s.length) :
    Calls Tryz.prog 45 #[.agg #[.int .i64 x, .int .i64 y, .int .i64 z], .string ⟨s.toArray⟩] w fun e w' =>
      e = .returned (.tuple #[.int .u64 0, .int .i64 4, .int .i64 0]) ∧ Keep w w' := by
  have hsz : (ByteArray.mk s.toArray).size = s.length := sz_mk s
  have e0 : decide ((4096 : Int) < (s.length : Int)) = true := decide_eq_true (by omega)
  go_enter Tryz.func45, Tryz.ntmps45
  go_wp2_with fail
  go_ret3
  exact ⟨rfl, (Keep.refl w).alloc _⟩
set_option maxRecDepth 100000 in
set_option maxHeartbeats 400000 in
theorem Read_long (s : List UInt8) (w : World) (hs : 4096 < s.length) :
    Calls Tryz.prog 12 #[.string ⟨s.toArray⟩] w fun e w' => e = .returned (.tuple #[.float .f64 0, .int .i64 4, .int .i64 0]) ∧ Keep w w' := by
  have hb := fun wx => binary64_any wx
  have hr := fun wx => read_long 52 2047 (-1074) s wx hs
  have hf : ∀ wx, (callFunc 19 #[.int .u64 0]).run Tryz.prog wx = .ok (.value (.float .f64 0)) wx := fun wx => f64from 0 wx
  clear hs
  go_enter Tryz.func12, Tryz.ntmps12
  go_wp2_with fail
  refine (hb _).mono ?_
  rintro e w1 ⟨rfl, k1⟩
  go_wp2_with fail
  refine (hr _).mono ?_
  rintro e w2 ⟨rfl, k2⟩
  go_wp2_with fail
  go_ret3
  exact ⟨rfl, k1.trans k2⟩
set_option maxRecDepth 100000 in
theorem binary32_any (w : World) : Calls Tryz.prog 56 #[] w fun e w' => e = .returned (.agg #[.int .i64 23, .int .i64 255, .int .i64 (-149)]) ∧ Keep w w' := by
  go_enter Tryz.func56, Tryz.ntmps56
  go_wp2_with fail
  refine bodyPost_ret (results_cell_row rfl _ _ w.heap.size 85 _ (0, 0) _ rfl (heap_alloc_new w _) Tryz.underlying85 rfl (by kernel_rfl)) rfl ?_
  exact ⟨rfl, (Keep.refl w).alloc _⟩
theorem f32from (x : Nat) (w : World) : (callFunc 28 #[.int .u32 (x : Nat)]).run Tryz.prog w = .ok (.value (.float .f32 x)) w := by
  rw [run_callFunc_extern Tryz.func28 (by kernel_rfl) (by kernel_rfl) (by kernel_rfl) (e := Extern.MathFloatBits.float32frombits) (by kernel_rfl)]
  rfl
namespace Nw
theorem sg_le (s : Bool) : sg s ≤ 2147483648 := by cases s <;> decide
set_option maxRecDepth 100000 in
set_option maxHeartbeats 400000 in
/-- Every right decimal is read as the number of binary32 nearest to what it says. -/
theorem Read_dec (s : List UInt8) (w : World) (hs : s.length ≤ 4096) (hok : cOk s = true) (hhx : cHx s = false) :
    Calls Tryz.prog 16 #[.string ⟨s.toArray⟩] w fun e w' =>
      ∃ x : Nat, e = .returned (.tuple #[.float .f32 (x + sg (cNg s)), .int .i64 0, .int .i64 0]) ∧ NB (rdN s * 10 ^ (rdP s).toNat) (10 ^ (-(rdP s)).toNat) x ∧ Keep w w' := by
  have hb := fun wx => binary32_any wx
  have hr := fun wx => read_dec s wx hs hok hhx
  have hf := fun (x : Nat) wx => f32from x wx
  have hsl := sg_le (cNg s)
  clear hok hhx
  generalize sg (cNg s) = ss at *
  go_enter Tryz.func16, Tryz.ntmps16
  go_wp2_with fail
  refine (hb _).mono ?_
  rintro e w1 ⟨rfl, k1⟩
  go_wp2_with fail
  refine (hr _).mono ?_
  rintro e w2 ⟨x, rfl, hx, k2⟩
  have hxl := hx.le (Nat.pow_pos (by omega))
  have HX : Hid (NB (rdN s * 10 ^ (rdP s).toNat) (10 ^ (-(rdP s)).toNat) x) := hx
  obtain ⟨y, hy⟩ : ∃ y, x + ss = y := ⟨_, rfl⟩
  have hf1 := fun wx => hf y wx
  rw [hy]
  have hy2 : y < 4294967296 := by omega
  have hw : IntKind.u32.wrap (y : Int) = (y : Int) := by rw [IntKind.wrap_u32]; omega
  have HY : Hid (x + ss = y) := hy
  clear hx hy hf hxl hsl
  go_wp2_with fail
  go_ret3
  exact ⟨x, by rw [HY.out]; rfl, HX.out, k1.trans k2⟩
/-- EVERY DECIMAL'S TEXT IS READ AS THE NUMBER OF BINARY32 NEAREST TO WHAT IT SAYS. -/
theorem Read_txt (ng : Bool) (A B P : List UInt8) (V : Int) (hA : allD A) (hA0 : A ≠ []) (hB : allD B) (hP : (P = [] ∧ V = 0) ∨ ∃ ns E, P = ptx ns E ∧ allD E ∧ E ≠ [] ∧ V = pwN ns E) (hl : (dtx ng A B P).length ≤ 4096) (w : World) :
    Calls Tryz.prog 16 #[.string ⟨(dtx ng A B P).toArray⟩] w fun e w' =>
      ∃ x : Nat, e = .returned (.tuple #[.float .f32 (x + sg ng), .int .i64 0, .int .i64 0]) ∧ NB (nat (A ++ B) * 10 ^ (V - (B.length : Int)).toNat) (10 ^ (-(V - (B.length : Int))).toNat) x ∧ Keep w w' := by
  have hP' : P = [] ∨ ∃ ns E, P = ptx ns E ∧ allD E ∧ E ≠ [] := by
    rcases hP with h | ⟨ns, E, h1, h2, h3, -⟩
    · exact .inl h.1
    · exact .inr ⟨ns, E, h1, h2, h3⟩
  obtain ⟨p1, p2, p3, p4, p5, X, hX, hk⟩ := dtx_parts ng A B P hA hA0 hB hP'
  obtain ⟨g1, g2, g3, g4⟩ := way_go p5
  have hall : cOk (dtx ng A B P) = true ∧ rdP (dtx ng A B P) = V - (B.length : Int) := by
    rw [p2] at g1 g2 g4
    unfold rdP
    rw [g1, g2, g4, p4]
    rcases hP with ⟨h1, h2⟩ | ⟨ns, E, h1, h2, h3, h4⟩
    · obtain ⟨q1, q2, q3, q4⟩ := at_end hX hk h1
      refine ⟨q2, ?_⟩
      rw [q3, q4, h2]
      have : pwN false [] = 0 := by decide
      rw [this]
    · subst h1
      obtain ⟨q1, q2, q3⟩ := at_pow ns E hX hk h2 h3
      exact ⟨q1, by rw [q2, q3, h4]⟩
  have hN : rdN (dtx ng A B P) = nat (A ++ B) := by unfold rdN; rw [p3, p4]
  have h := Read_dec (dtx ng A B P) w hl hall.1 p2
  rw [p1, hN, hall.2] at h
  exact h
end Nw
end Go.Proofs.YtpdjpjkieafnbaaGreatDoor.Li
set_option linter.unusedVariables false
set_option linter.unusedSimpArgs false
namespace Go.Proofs.YtpdjpjkieafnbaaGreatDoor.Li.Nw
open Go.RowKit Lb Nr
set_option maxRecDepth 100000 in
set_option maxHeartbeats 400000 in
/-- A text that is too long. -/
theorem read_longW (s : List UInt8) (w : World) (hs : 4096 < s.length) :
    Calls Tryz.prog 45 #[.agg #[.int .i64 23, .int .i64 255, .int .i64 (-149)], .string ⟨s.toArray⟩] w fun e w' =>
      e = .returned (.tuple #[.int .u64 0, .int .i64 4, .int .i64 0]) ∧ Keep w w' := by
  have hsz : (ByteArray.mk s.toArray).size = s.length := sz_mk s
  have e0 : decide ((4096 : Int) < (s.length : Int)) = true := decide_eq_true (by omega)
  go_enter Tryz.func45, Tryz.ntmps45
  go_wp2_with fail
  go_ret3
  exact ⟨rfl, (Keep.refl w).alloc _⟩
/-- What the bits, the error and the place are that a text is read as. -/
def FR (s : List UInt8) (x e a : Nat) : Prop :=
  (4096 < s.length ∧ x = 0 ∧ e = 4 ∧ a = 0) ∨
  (s.length ≤ 4096 ∧ (
    (s = [110, 97, 110] ∧ x = 2143289344 ∧ e = 0 ∧ a = 0) ∨
    (s = [105, 110, 102] ∧ x = 2139095040 ∧ e = 0 ∧ a = 0) ∨
    (s = [45, 105, 110, 102] ∧ x = 4286578688 ∧ e = 0 ∧ a = 0) ∨
    (cOk s = true ∧ e = 0 ∧ a = 0 ∧ ∃ y, x = y + sg (cNg s) ∧ (cHx s = false → NB (rdN s * 10 ^ (rdP s).toNat) (10 ^ (-(rdP s)).toNat) y) ∧ (cHx s = true → NB (rxN s * 2 ^ (rxP s).toNat) (2 ^ (-(rxP s)).toNat) y)) ∨
    (s ≠ [110, 97, 110] ∧ s ≠ [105, 110, 102] ∧ s ≠ [45, 105, 110, 102] ∧ cOk s = false ∧ x = 0 ∧ e = 20 ∧ a = fltAt s)))
/-- format.read, of every text. -/
theorem read_all (s : List UInt8) (w : World) :
    Calls Tryz.prog 45 #[.agg #[.int .i64 23, .int .i64 255, .int .i64 (-149)], .string ⟨s.toArray⟩] w fun r w' =>
      ∃ x e a : Nat, r = .returned (.tuple #[.int .u64 (x : Nat), .int .i64 (e : Nat), .int .i64 (a : Nat)]) ∧ FR s x e a ∧ Keep w w' := by
  by_cases hl : 4096 < s.length
  · refine (read_longW s w hl).mono ?_
    rintro r w' ⟨rfl, k⟩
    exact ⟨0, 4, 0, rfl, .inl ⟨hl, rfl, rfl, rfl⟩, k⟩
  have hl' : s.length ≤ 4096 := by omega
  by_cases h1 : s = [110, 97, 110]
  · subst h1
    refine (read_nan w).mono ?_
    rintro r w' ⟨rfl, k⟩
    exact ⟨_, 0, 0, rfl, .inr ⟨hl', .inl ⟨rfl, rfl, rfl, rfl⟩⟩, k⟩
  by_cases h2 : s = [105, 110, 102]
  · subst h2
    refine (read_inf w).mono ?_
    rintro r w' ⟨rfl, k⟩
    exact ⟨_, 0, 0, rfl, .inr ⟨hl', .inr (.inl ⟨rfl, rfl, rfl, rfl⟩)⟩, k⟩
  by_cases h3 : s = [45, 105, 110, 102]
  · subst h3
    refine (read_ninf w).mono ?_
    rintro r w' ⟨rfl, k⟩
    exact ⟨_, 0, 0, rfl, .inr ⟨hl', .inr (.inr (.inl ⟨rfl, rfl, rfl, rfl⟩))⟩, k⟩
  cases hok : cOk s with
  | false =>
    refine (read_bad s w hl' hok h1 h2 h3).mono ?_
    rintro r w' ⟨rfl, k⟩
    exact ⟨0, 20, fltAt s, rfl, .inr ⟨hl', .inr (.inr (.inr (.inr ⟨h1, h2, h3, hok, rfl, rfl, rfl⟩)))⟩, k⟩
  | true =>
    cases hhx : cHx s with
    | false =>
      refine (read_dec s w hl' hok hhx).mono ?_
      rintro r w' ⟨x, rfl, hx, k⟩
      exact ⟨_, 0, 0, rfl, .inr ⟨hl', .inr (.inr (.inr (.inl ⟨hok, rfl, rfl, x, rfl, fun _ => hx, fun h => by rw [hhx] at h; cases h⟩)))⟩, k⟩
    | true =>
      refine (read_hex s w hl' hok hhx).mono ?_
      rintro r w' ⟨x, rfl, hx, k⟩
      exact ⟨_, 0, 0, rfl, .inr ⟨hl', .inr (.inr (.inr (.inl ⟨hok, rfl, rfl, x, rfl, fun h => by (rw [hhx] at h; cases h), fun _ => hx⟩)))⟩, k⟩
theorem FR_lt {s : List UInt8} {x e a : Nat} (h : FR s x e a) : x < 4294967296 := by
  rcases h with ⟨-, h, -⟩ | ⟨-, h⟩
  · omega
  · rcases h with ⟨-, h, -⟩ | ⟨-, h, -⟩ | ⟨-, h, -⟩ | ⟨-, -, -, y, h, h1, h2⟩ | ⟨-, -, -, -, h, -⟩
    · omega
    · omega
    · omega
    · have hs := sg_le (cNg s)
      have hy : y ≤ 2139095040 := by
        cases hx : cHx s with
        | false => exact NB.le (h1 hx) (Nat.pow_pos (by omega))
        | true => exact NB.le (h2 hx) (Nat.two_pow_pos _)
      omega
    · omega
set_option maxRecDepth 100000 in
set_option maxHeartbeats 400000 in
/-- Read, of every text. -/
theorem Read_all (s : List UInt8) (w : World) :
    Calls Tryz.prog 16 #[.string ⟨s.toArray⟩] w fun r w' =>
      ∃ x e a : Nat, r = .returned (.tuple #[.float .f32 x, .int .i64 (e : Nat), .int .i64 (a : Nat)]) ∧ FR s x e a ∧ Keep w w' := by
  have hb := fun wx => binary32_any wx
  have hr := fun wx => read_all s wx
  have hf := fun (x : Nat) wx => f32from x wx
  go_enter Tryz.func16, Tryz.ntmps16
  go_wp2_with fail
  refine (hb _).mono ?_
  rintro r w1 ⟨rfl, k1⟩
  go_wp2_with fail
  refine (hr _).mono ?_
  rintro r w2 ⟨x, e, a, rfl, hx, k2⟩
  have HX : Hid (FR s x e a) := hx
  have hf1 := fun wx => hf x wx
  have hxl : x < 4294967296 := FR_lt hx
  have hw : IntKind.u32.wrap (x : Int) = (x : Int) := by rw [IntKind.wrap_u32]; omega
  clear hx hf hr hb
  go_wp2_with fail
  go_ret3
  exact ⟨x, e, a, rfl, HX.out, k1.trans k2⟩
end Go.Proofs.YtpdjpjkieafnbaaGreatDoor.Li.Nw
namespace Go.Proofs.YtpdjpjkieafnbaaGreatDoor.Fs
/-- How far a rung lies above nought, in units of the least number. -/
def mg (r : Nat) : Nat := (if r < 8388608 then r else 8388608 + r % 8388608) * 2 ^ (r / 8388608 - 1)
theorem mg_step (r : Nat) : mg r < mg (r + 1) := by
  have key : ∀ B : Nat, 0 < B → ∀ r, (if r < B then r else B + r % B) * 2 ^ (r / B - 1) < (if r + 1 < B then r + 1 else B + (r + 1) % B) * 2 ^ ((r + 1) / B - 1) := by
    intro B hB r
    by_cases h1 : r + 1 < B
    · rw [if_pos (by omega), if_pos h1, Nat.div_eq_of_lt (by omega), Nat.div_eq_of_lt h1]; omega
    · by_cases h2 : r + 1 = B
      · rw [if_pos (by omega), if_neg h1, Nat.div_eq_of_lt (by omega), h2, Nat.mod_self, Nat.div_self hB]; simp; omega
      · have h3 : B ≤ r := by omega
        rw [if_neg (by omega), if_neg h1]
        have hq : 1 ≤ r / B := (Nat.le_div_iff_mul_le hB).2 (by omega)
        have hm := Nat.mod_lt r hB
        have e := Nat.div_add_mod r B
        by_cases h4 : r % B + 1 < B
        · have e1 : (r + 1) / B = r / B := by
            rw [Nat.div_eq_iff hB, Nat.mul_comm]; omega
          have e2 : (r + 1) % B = r % B + 1 := by
            rw [Nat.add_mod]
            by_cases hb : B = 1
            · omega
            · rw [Nat.mod_eq_of_lt (a := 1) (by omega), Nat.mod_eq_of_lt h4]
          rw [e1, e2]
          exact Nat.mul_lt_mul_of_pos_right (by omega) (Nat.two_pow_pos _)
        · have e1 : (r + 1) / B = r / B + 1 := by
            rw [Nat.div_eq_iff hB, Nat.mul_comm, Nat.mul_add]; omega
          have e2 : (r + 1) % B = 0 := by
            have : r + 1 = B * (r / B + 1) := by rw [Nat.mul_add]; omega
            rw [this, Nat.mul_mod_right]
          rw [e1, e2, Nat.add_zero, Nat.add_sub_cancel]
          have : 2 ^ (r / B) = 2 * 2 ^ (r / B - 1) := by
            rw [show r / B = (r / B - 1) + 1 by omega, Nat.pow_succ, Nat.add_sub_cancel, Nat.mul_comm]
          rw [this, ← Nat.mul_assoc]
          exact Nat.mul_lt_mul_of_pos_right (by omega) (Nat.two_pow_pos _)
  exact key 8388608 (by omega) r
theorem mg_lt {r s : Nat} (h : r < s) : mg r < mg s := by
  induction s with
  | zero => omega
  | succ s ih =>
    by_cases e : r = s
    · rw [e]; exact mg_step s
    · exact Nat.lt_trans (ih (by omega)) (mg_step s)
theorem mg_zero : mg 0 = 0 := by simp [mg]
theorem mg_pos {r : Nat} (h : 0 < r) : 0 < mg r := by have := mg_lt h; rw [mg_zero] at this; exact this
/-- A word's sign and amount. -/
def negB (x : Nat) : Bool := x / 2147483648 % 2 == 1
def sv (x : Nat) : Int := if negB x then -(mg (x % 2147483648) : Int) else (mg (x % 2147483648) : Int)
/-- The key, counted from nought's. -/
def ky (x : Nat) : Int := if negB x then -((x % 2147483648 : Nat) : Int) else ((x % 2147483648 : Nat) : Int)
theorem sv_lt {x y : Nat} (h : ky x < ky y) : sv x < sv y := by
  unfold ky at h
  unfold sv
  generalize x % 2147483648 = a at h ⊢
  generalize y % 2147483648 = b at h ⊢
  generalize negB x = u at h ⊢
  generalize negB y = v at h ⊢
  have hm : ∀ r s, r < s → (mg r : Int) < mg s := fun r s h => by exact_mod_cast mg_lt h
  have h0 : ∀ r, (0 : Int) ≤ mg r := fun r => by omega
  have hp : ∀ r, 0 < r → (0 : Int) < mg r := fun r h => by exact_mod_cast mg_pos h
  cases u <;> cases v <;> simp only [if_true, if_false, Bool.false_eq_true] at h ⊢
  · exact hm _ _ (by omega)
  · omega
  · by_cases ha : 0 < a
    · have := hp _ ha; have := h0 b; omega
    · have := hp b (by omega); have := h0 a; omega
  · have := hm b a (by omega); omega
theorem sv_eq {x y : Nat} (h : ky x = ky y) : sv x = sv y := by
  unfold ky at h
  unfold sv
  generalize x % 2147483648 = a at h ⊢
  generalize y % 2147483648 = b at h ⊢
  generalize negB x = u at h ⊢
  generalize negB y = v at h ⊢
  have hz : mg 0 = 0 := mg_zero
  cases u <;> cases v <;> simp only [if_true, if_false, Bool.false_eq_true] at h ⊢
  · have : a = b := by omega
    rw [this]
  · obtain ⟨rfl, rfl⟩ : a = 0 ∧ b = 0 := by omega
    omega
  · obtain ⟨rfl, rfl⟩ : a = 0 ∧ b = 0 := by omega
    omega
  · have : a = b := by omega
    rw [this]
theorem cmp_lt {a b : Int} (h : a < b) : compare a b = .lt := by rw [Int.compare_eq_lt]; exact h
theorem cmp_sv (x y : Nat) : compare (sv x) (sv y) = compare (ky x) (ky y) := by
  rcases Int.lt_trichotomy (ky x) (ky y) with h | h | h
  · rw [Int.compare_eq_lt.2 h, Int.compare_eq_lt.2 (sv_lt h)]
  · rw [Int.compare_eq_eq.2 h, Int.compare_eq_eq.2 (sv_eq h)]
  · rw [Int.compare_eq_gt.2 h, Int.compare_eq_gt.2 (sv_lt h)]
@[reducible] def isNaN (x : Nat) : Prop := 2139095040 < x % 2147483648
theorem read_eq (x : Nat) : Ieee.single.read x = if x % 2147483648 < 2139095040 then .number (negB x) (if x % 2147483648 < 8388608 then x % 2147483648 else 8388608 + x % 2147483648 % 8388608) (-149 + ((x % 2147483648 / 8388608 - 1 : Nat) : Int))
    else if x % 2147483648 = 2139095040 then .infinity (negB x) else .nan (negB x) (x % 2147483648 - 2139095040) := by
  have e1 : Ieee.single.signWeight = 2147483648 := by decide
  have e2 : Ieee.single.binade = 8388608 := by decide
  have e3 : Ieee.single.infRung = 2139095040 := by decide
  have e4 : Ieee.single.leastPlace = -149 := by decide
  unfold Ieee.Format.read
  simp only [e1, e2, e3, e4]
  change (if _ then Ieee.Datum.number (negB x) _ _ else _) = _
  by_cases h1 : x % 2147483648 < 8388608
  · rw [if_pos h1, if_pos (by omega), if_pos h1, Nat.div_eq_of_lt h1]; rfl
  · rw [if_neg h1]
    by_cases h2 : x % 2147483648 < 2139095040
    · rw [if_pos h2, if_pos h2, if_neg h1]; rfl
    · rw [if_neg h2, if_neg h2]; rfl
theorem cmp_scale (a b : Int) (k : Nat) : compare (a * 2 ^ k) (b * 2 ^ k) = compare a b := by
  have hp : (0 : Int) < 2 ^ k := Int.pow_pos (by omega)
  rcases Int.lt_trichotomy a b with h | h | h
  · rw [Int.compare_eq_lt.2 h, Int.compare_eq_lt.2 (Int.mul_lt_mul_of_pos_right h hp)]
  · rw [Int.compare_eq_eq.2 h, Int.compare_eq_eq.2 (by rw [h])]
  · rw [Int.compare_eq_gt.2 h, Int.compare_eq_gt.2 (Int.mul_lt_mul_of_pos_right h hp)]
theorem order_num (s t : Bool) (m n i j : Nat) (p : Int) : Ieee.Datum.order (.number s m (p + i)) (.number t n (p + j)) =
    some (compare (if s then -((m * 2 ^ i : Nat) : Int) else ((m * 2 ^ i : Nat) : Int)) (if t then -((n * 2 ^ j : Nat) : Int) else ((n * 2 ^ j : Nat) : Int))) := by
  simp only [Ieee.Datum.order, Ieee.signed, Nat.shiftLeft_eq]
  congr 1
  have hb : (min (p + (i : Int)) (p + j)) = p + ((min i j : Nat) : Int) := by omega
  rw [hb, show (p + (i : Int) - (p + ((min i j : Nat) : Int))).toNat = i - min i j by omega, show (p + (j : Int) - (p + ((min i j : Nat) : Int))).toNat = j - min i j by omega]
  rw [← cmp_scale _ _ (min i j)]
  have e : ∀ (u : Bool) (m k b : Nat), b ≤ k → (if u = true then -((m * 2 ^ (k - b) : Nat) : Int) else ((m * 2 ^ (k - b) : Nat) : Int)) * 2 ^ b = (if u = true then -((m * 2 ^ k : Nat) : Int) else ((m * 2 ^ k : Nat) : Int)) := by
    intro u m k b h
    have h2 : m * 2 ^ (k - b) * 2 ^ b = m * 2 ^ k := by rw [Nat.mul_assoc, ← Nat.pow_add, Nat.sub_add_cancel h]
    have h3 : ((m * 2 ^ (k - b) : Nat) : Int) * 2 ^ b = ((m * 2 ^ k : Nat) : Int) := by rw [← h2]; push_cast; rfl
    cases u
    · simp only [Bool.false_eq_true, if_false]; exact h3
    · simp only [if_true]; rw [Int.neg_mul, h3]
  rw [e s m i _ (Nat.min_le_left _ _), e t n j _ (Nat.min_le_right _ _)]
/-- Two numbers that are no NaN compare as their keys do. -/
theorem order_ky (x y : Nat) (hx : ¬ isNaN x) (hy : ¬ isNaN y) : Ieee.single.order x y = some (compare (ky x) (ky y)) := by
  unfold isNaN at hx hy
  unfold Ieee.Format.order
  rw [read_eq, read_eq]
  by_cases h1 : x % 2147483648 < 2139095040
  · rw [if_pos h1]
    by_cases h2 : y % 2147483648 < 2139095040
    · rw [if_pos h2, order_num, ← cmp_sv]; rfl
    · rw [if_neg h2, if_pos (c := y % 2147483648 = 2139095040) (by omega)]
      simp only [Ieee.Datum.order]
      congr 1
      unfold ky
      cases negB x <;> cases negB y <;> simp only [if_true, if_false, Bool.false_eq_true]
      · rw [Int.compare_eq_lt.2]; omega
      · rw [Int.compare_eq_gt.2]; omega
      · rw [Int.compare_eq_lt.2]; omega
      · rw [Int.compare_eq_gt.2]; omega
  · rw [if_neg h1, if_pos (c := x % 2147483648 = 2139095040) (by omega)]
    by_cases h2 : y % 2147483648 < 2139095040
    · rw [if_pos h2]
      simp only [Ieee.Datum.order]
      congr 1
      unfold ky
      cases negB x <;> cases negB y <;> simp only [if_true, if_false, Bool.false_eq_true]
      · rw [Int.compare_eq_gt.2]; omega
      · rw [Int.compare_eq_gt.2]; omega
      · rw [Int.compare_eq_lt.2]; omega
      · rw [Int.compare_eq_lt.2]; omega
    · rw [if_neg h2, if_pos (c := y % 2147483648 = 2139095040) (by omega)]
      simp only [Ieee.Datum.order]
      congr 1
      unfold ky
      cases negB x <;> cases negB y <;> simp only [if_true, if_false, Bool.false_eq_true]
      · rw [Int.compare_eq_eq.2 (by omega)]; rfl
      · rw [Int.compare_eq_gt.2 (by omega)]; rfl
      · rw [Int.compare_eq_lt.2 (by omega)]; rfl
      · rw [Int.compare_eq_eq.2 (by omega)]; rfl
theorem order_nan (x y : Nat) (h : isNaN x ∨ isNaN y) : Ieee.single.order x y = none := by
  unfold isNaN at h
  unfold Ieee.Format.order
  rw [read_eq, read_eq]
  by_cases h1 : 2139095040 < x % 2147483648
  · rw [if_neg (by omega), if_neg (by omega)]; rfl
  · have h2 : 2139095040 < y % 2147483648 := by rcases h with h | h <;> omega
    rw [if_neg (c := y % 2147483648 < 2139095040) (by omega), if_neg (c := y % 2147483648 = 2139095040) (by omega)]
    by_cases h3 : x % 2147483648 < 2139095040
    · rw [if_pos h3]; rfl
    · rw [if_neg h3, if_pos (by omega)]; rfl
end Go.Proofs.YtpdjpjkieafnbaaGreatDoor.Fs
