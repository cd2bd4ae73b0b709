import Derived.Test.YtpdjpjkieafnbaaDoorR13
import Derived.Test.YtpdjpjkieafnbaaDoorZ9
import Derived.Test.YtpdjpjkieafnbaaDoorFFM
import Derived.Test.YtpdjpjkieafnbaaDoorLE7
set_option linter.unusedVariables false
set_option linter.unusedSimpArgs false
namespace Go.Proofs.YtpdjpjkieafnbaaDoor.Li
open Go.RowKit Lb Nr
set_option maxRecDepth 100000 in
set_option maxHeartbeats 400000 in
/-- Every right decimal is read as the number nearest to what it says. -/
theorem Read_dec (s : List UInt8) (w : World) (hs : s.length ≤ 4096) (hok : cOk s = true) (hhx : cHx s = false) :
    Calls Tryd.prog 4 #[.string ⟨s.toArray⟩] w fun e w' =>
      ∃ x : Nat, e = .returned (.tuple #[.float .f64 (x + sg (cNg s)), .int .i64 0, .int .i64 0]) ∧ NB (rdN s * 10 ^ (rdP s).toNat) (10 ^ (-(rdP s)).toNat) x ∧ Keep w w' := by
  have hb := fun wx => binary64_any wx
  have hr := fun wx => read_dec s wx hs hok hhx
  have hf := fun (x : Nat) wx => f64from x wx
  unfold fmtV at *
  clear hok hhx
  generalize sg (cNg s) = ss at *
  go_enter Tryd.func4, Tryd.ntmps4
  go_wp2_with fail
  refine (hb _).mono ?_
  rintro e w1 ⟨rfl, k1⟩
  go_wp2_with fail
  refine (hr _).mono ?_
  rintro e w2 ⟨x, rfl, hx, k2⟩
  have HX : Hid (NB (rdN s * 10 ^ (rdP s).toNat) (10 ^ (-(rdP s)).toNat) x) := hx
  obtain ⟨y, hy⟩ : ∃ y, x + ss = y := ⟨_, rfl⟩
  have hf1 := fun wx => hf y wx
  rw [hy]
  have HY : Hid (x + ss = y) := hy
  clear hx hy hf
  go_wp2_with fail
  go_ret3
  exact ⟨x, by rw [HY.out]; rfl, HX.out, k1.trans k2⟩
theorem tenth_E : IsE 1 10 (-56) := by
  unfold IsE fl sA sB
  decide +kernel
theorem Read_tenth (w : World) : Calls Tryd.prog 4 #[.string ⟨#[48, 46, 49]⟩] w fun e w' => e = .returned (.tuple #[.float .f64 4591870180066957722, .int .i64 0, .int .i64 0]) ∧ Keep w w' := by
  refine (Read_dec [48, 46, 49] w (by decide) (by decide) (by decide)).mono ?_
  rintro e w' ⟨x, rfl, hx, k⟩
  have e1 : rdN [48, 46, 49] * 10 ^ (rdP [48, 46, 49]).toNat = 1 := by decide
  have e2 : 10 ^ (-(rdP [48, 46, 49])).toNat = 10 := by decide
  rw [e1, e2] at hx
  have hx2 : x = 4591870180066957722 := by
    rw [hx.2 (by omega) (-56) tenth_E]
    decide +kernel
  have e3 : sg (cNg [48, 46, 49]) = 0 := by decide
  rw [hx2, e3]
  exact ⟨rfl, k⟩
end Go.Proofs.YtpdjpjkieafnbaaDoor.Li
set_option linter.unusedVariables false
set_option linter.unusedSimpArgs false
namespace Go.Proofs.YtpdjpjkieafnbaaDoor.Li
open Go.RowKit Lb Nr
set_option maxRecDepth 100000 in
set_option maxHeartbeats 400000 in
/-- A text that is too long. -/
theorem read_longW (s : List UInt8) (w : World) (hs : 4096 < s.length) :
    Calls Tryd.prog 14 #[.agg #[.int .i64 52, .int .i64 2047, .int .i64 (-1074)], .string ⟨s.toArray⟩] w fun e w' =>
      e = .returned (.tuple #[.int .u64 0, .int .i64 4, .int .i64 0]) ∧ Keep w w' := by
  have hsz : (ByteArray.mk s.toArray).size = s.length := sz_mk s
  have e0 : decide ((4096 : Int) < (s.length : Int)) = true := decide_eq_true (by omega)
  go_enter Tryd.func14, Tryd.ntmps14
  go_wp2_with fail
  go_ret3
  exact ⟨rfl, (Keep.refl w).alloc _⟩
/-- What the bits, the error and the place are that a text is read as. -/
def FR (s : List UInt8) (x e a : Nat) : Prop :=
  (4096 < s.length ∧ x = 0 ∧ e = 4 ∧ a = 0) ∨
  (s.length ≤ 4096 ∧ (
    (s = [110, 97, 110] ∧ x = 9221120237041090560 ∧ e = 0 ∧ a = 0) ∨
    (s = [105, 110, 102] ∧ x = 9218868437227405312 ∧ e = 0 ∧ a = 0) ∨
    (s = [45, 105, 110, 102] ∧ x = 18442240474082181120 ∧ e = 0 ∧ a = 0) ∨
    (cOk s = true ∧ e = 0 ∧ a = 0 ∧ ∃ y, x = y + sg (cNg s) ∧ (cHx s = false → NB (rdN s * 10 ^ (rdP s).toNat) (10 ^ (-(rdP s)).toNat) y) ∧ (cHx s = true → NB (rxN s * 2 ^ (rxP s).toNat) (2 ^ (-(rxP s)).toNat) y)) ∨
    (s ≠ [110, 97, 110] ∧ s ≠ [105, 110, 102] ∧ s ≠ [45, 105, 110, 102] ∧ cOk s = false ∧ x = 0 ∧ e = 20 ∧ a = fltAt s)))
/-- format.read, of every text. -/
theorem read_all (s : List UInt8) (w : World) :
    Calls Tryd.prog 14 #[.agg #[.int .i64 52, .int .i64 2047, .int .i64 (-1074)], .string ⟨s.toArray⟩] w fun r w' =>
      ∃ x e a : Nat, r = .returned (.tuple #[.int .u64 (x : Nat), .int .i64 (e : Nat), .int .i64 (a : Nat)]) ∧ FR s x e a ∧ Keep w w' := by
  by_cases hl : 4096 < s.length
  · refine (read_longW s w hl).mono ?_
    rintro r w' ⟨rfl, k⟩
    exact ⟨0, 4, 0, rfl, .inl ⟨hl, rfl, rfl, rfl⟩, k⟩
  have hl' : s.length ≤ 4096 := by omega
  by_cases h1 : s = [110, 97, 110]
  · subst h1
    refine (read_nan w).mono ?_
    rintro r w' ⟨rfl, k⟩
    exact ⟨_, 0, 0, rfl, .inr ⟨hl', .inl ⟨rfl, rfl, rfl, rfl⟩⟩, k⟩
  by_cases h2 : s = [105, 110, 102]
  · subst h2
    refine (read_inf w).mono ?_
    rintro r w' ⟨rfl, k⟩
    exact ⟨_, 0, 0, rfl, .inr ⟨hl', .inr (.inl ⟨rfl, rfl, rfl, rfl⟩)⟩, k⟩
  by_cases h3 : s = [45, 105, 110, 102]
  · subst h3
    refine (read_ninf w).mono ?_
    rintro r w' ⟨rfl, k⟩
    exact ⟨_, 0, 0, rfl, .inr ⟨hl', .inr (.inr (.inl ⟨rfl, rfl, rfl, rfl⟩))⟩, k⟩
  cases hok : cOk s with
  | false =>
    refine (read_bad s w hl' hok h1 h2 h3).mono ?_
    rintro r w' ⟨rfl, k⟩
    exact ⟨0, 20, fltAt s, rfl, .inr ⟨hl', .inr (.inr (.inr (.inr ⟨h1, h2, h3, hok, rfl, rfl, rfl⟩)))⟩, k⟩
  | true =>
    cases hhx : cHx s with
    | false =>
      refine (read_dec s w hl' hok hhx).mono ?_
      rintro r w' ⟨x, rfl, hx, k⟩
      exact ⟨_, 0, 0, rfl, .inr ⟨hl', .inr (.inr (.inr (.inl ⟨hok, rfl, rfl, x, rfl, fun _ => hx, fun h => by rw [hhx] at h; cases h⟩)))⟩, k⟩
    | true =>
      refine (read_hex s w hl' hok hhx).mono ?_
      rintro r w' ⟨x, rfl, hx, k⟩
      exact ⟨_, 0, 0, rfl, .inr ⟨hl', .inr (.inr (.inr (.inl ⟨hok, rfl, rfl, x, rfl, fun h => by (rw [hhx] at h; cases h), fun _ => hx⟩)))⟩, k⟩
set_option maxRecDepth 100000 in
set_option maxHeartbeats 400000 in
/-- Read, of every text. -/
theorem Read_all (s : List UInt8) (w : World) :
    Calls Tryd.prog 4 #[.string ⟨s.toArray⟩] w fun r w' =>
      ∃ x e a : Nat, r = .returned (.tuple #[.float .f64 x, .int .i64 (e : Nat), .int .i64 (a : Nat)]) ∧ FR s x e a ∧ Keep w w' := by
  have hb := fun wx => binary64_any wx
  have hr := fun wx => read_all s wx
  have hf := fun (x : Nat) wx => f64from x wx
  go_enter Tryd.func4, Tryd.ntmps4
  go_wp2_with fail
  refine (hb _).mono ?_
  rintro r w1 ⟨rfl, k1⟩
  go_wp2_with fail
  refine (hr _).mono ?_
  rintro r w2 ⟨x, e, a, rfl, hx, k2⟩
  have HX : Hid (FR s x e a) := hx
  have hf1 := fun wx => hf x wx
  clear hx hf hr hb
  go_wp2_with fail
  go_ret3
  exact ⟨x, e, a, rfl, HX.out, k1.trans k2⟩
end Go.Proofs.YtpdjpjkieafnbaaDoor.Li
set_option linter.unusedVariables false
set_option linter.unusedSimpArgs false
namespace Go.Proofs.YtpdjpjkieafnbaaDoor
/-- A number's digits. -/
def dD (n : Nat) : List UInt8 := if h : n < 10 then [UInt8.ofNat (48 + n)] else dD (n / 10) ++ [UInt8.ofNat (48 + n % 10)]
termination_by n
decreasing_by omega
theorem dD_small {n : Nat} (h : n < 10) : dD n = [UInt8.ofNat (48 + n)] := by rw [dD, dif_pos h]
theorem dD_step {n : Nat} (h : ¬ n < 10) : dD n = dD (n / 10) ++ [UInt8.ofNat (48 + n % 10)] := by rw [dD, dif_neg h]
theorem dD_len (k : Nat) : ∀ n, n < 10 ^ (k + 1) → (dD n).length ≤ k + 1 := by
  induction k with
  | zero => intro n h; rw [dD_small (by simpa using h)]; simp
  | succ k ih =>
    intro n h
    by_cases q : n < 10
    · rw [dD_small q]; simp
    · rw [dD_step q, List.length_append]
      have h1 : n / 10 < 10 ^ (k + 1) := by
        rw [Nat.div_lt_iff_lt_mul (by omega), ← Nat.pow_succ]
        exact h
      have := ih _ h1
      simp
      omega
theorem ofNat_toNat {n : Nat} (h : n < 256) : (UInt8.ofNat n).toNat = n := by simp; omega
theorem dD_d (n : Nat) : ∀ k, n ≤ k → allD (dD n) := by
  intro k
  induction k generalizing n with
  | zero =>
    intro h
    rw [dD_small (by omega)]
    intro b hb
    have : b = UInt8.ofNat (48 + n) := by simpa using hb
    rw [this, show n = 0 by omega]
    decide
  | succ k ih =>
    intro h
    have one : ∀ m, m < 10 → isD (UInt8.ofNat (48 + m)) = true := by
      intro m hm
      unfold isD
      apply decide_eq_true
      rw [ofNat_toNat (by omega)]
      omega
    by_cases q : n < 10
    · rw [dD_small q]
      intro b hb
      have : b = UInt8.ofNat (48 + n) := by simpa using hb
      rw [this]
      exact one n q
    · rw [dD_step q]
      refine (ih (n / 10) (by omega)).app ?_
      intro b hb
      have : b = UInt8.ofNat (48 + n % 10) := by simpa using hb
      rw [this]
      exact one _ (by omega)
theorem dD_nat (n : Nat) : ∀ k, n ≤ k → nat (dD n) = n := by
  intro k
  induction k generalizing n with
  | zero =>
    intro h
    rw [dD_small (by omega), show n = 0 by omega]
    rfl
  | succ k ih =>
    intro h
    by_cases q : n < 10
    · rw [dD_small q, nat_cons]
      unfold dv
      rw [ofNat_toNat (by omega)]
      simp [nat]
    · rw [dD_step q, nat_append, ih (n / 10) (by omega), nat_cons]
      unfold dv
      rw [ofNat_toNat (by omega)]
      simp [nat]
      omega
theorem dD_ne (n : Nat) : dD n ≠ [] := by
  rw [dD]
  split
  · simp
  · simp
/-- The exact digits of m times 2^e. -/
def exZ (k : Nat) (d : List UInt8) : List UInt8 := List.replicate (k + 1 - d.length) 48 ++ d
def exD (m : Nat) (e : Int) : List UInt8 := if 0 ≤ e then dD (m * 2 ^ e.toNat) else (exZ (-e).toNat (dD (m * 5 ^ (-e).toNat))).take ((exZ (-e).toNat (dD (m * 5 ^ (-e).toNat))).length - (-e).toNat) ++ 46 :: (exZ (-e).toNat (dD (m * 5 ^ (-e).toNat))).drop ((exZ (-e).toNat (dD (m * 5 ^ (-e).toNat))).length - (-e).toNat)
theorem exZ_len (k : Nat) (d : List UInt8) : k + 1 ≤ (exZ k d).length := by unfold exZ; rw [List.length_append, List.length_replicate]; omega
theorem exZ_d (k : Nat) {d : List UInt8} (h : allD d) : allD (exZ k d) := (allD.zeros _).app h
theorem exZ_nat (k : Nat) (d : List UInt8) : nat (exZ k d) = nat d := by unfold exZ; rw [nat_append, nat_zeros]; simp
end Go.Proofs.YtpdjpjkieafnbaaDoor
set_option linter.unusedVariables false
set_option linter.unusedSimpArgs false
namespace Go.Proofs.YtpdjpjkieafnbaaDoor.Li
open Go.RowKit Lb
theorem cut0_app (a b : List Nat) (h : cut0 a ≠ []) : cut0 (a ++ b) = cut0 a ++ b := by
  unfold cut0 at *
  rw [List.dropWhile_append]
  simp [h]
theorem dec_small {n : Nat} (h : n < 10) : dec n = [48 + n] := by
  unfold dec
  by_cases h0 : n = 0
  · rw [if_pos h0, h0]
  · rw [if_neg h0, ← cut0_eq n 1 (by omega)]
    rw [dw, dw]
    unfold cut0
    have e : n % 10 = n := Nat.mod_eq_of_lt h
    rw [e, List.nil_append, List.dropWhile_cons_of_neg (by simp; omega)]
theorem dec_step {n : Nat} (h : ¬ n < 10) : dec n = dec (n / 10) ++ [48 + n % 10] := by
  have h1 : n / 10 ≠ 0 := by omega
  have hb : n / 10 < 10 ^ (n / 10) := lt_pow _
  have hb2 : n < 10 ^ (n / 10 + 1) := by rw [Nat.pow_succ]; omega
  unfold dec
  rw [if_neg (by omega), if_neg h1, ← cut0_eq n (n / 10 + 1) hb2, dw, cut0_app _ _ (cut0_ne _ _ (by omega) hb)]
/-- The digits that Print writes are the digits. -/
theorem dec_dD : ∀ (k n : Nat), n ≤ k → (dec n).map UInt8.ofNat = dD n := by
  intro k
  induction k with
  | zero =>
    intro n hn
    rw [dec_small (by omega), dD_small (by omega)]
    rfl
  | succ k ih =>
    intro n hn
    by_cases h : n < 10
    · rw [dec_small h, dD_small h]
      rfl
    · rw [dec_step h, dD_step h, List.map_append, ih (n / 10) (by omega)]
      rfl
theorem S8_dD (n : Nat) : S8 (dec n) = ⟨(dD n).toArray⟩ := by
  unfold S8
  rw [dec_dD n n (Nat.le_refl _)]
/-- Print, of a natural that is not too long. -/
theorem Print_dD (a : Option Addr) (ca : Nat) (l : List Nat) (w : World) (h1 : l.length ≤ ca) (h2 : l.length ≤ 1000) (h3 : Rd w a l) (h4 : Lim l) :
    Calls Tryd.prog 5 #[.slice a l.length ca] w fun e w' => e = .returned (.string ⟨(dD (val l)).toArray⟩) ∧ Keep w w' := by
  have hl : lenB l ≤ 1099511627776 := by
    have := lenB_max h4
    omega
  have q := Print_any a ca l w h1 (by omega) h3 h4 hl
  rw [S8_dD] at q
  exact q
end Go.Proofs.YtpdjpjkieafnbaaDoor.Li
