import Derived.Test.YtpdjpjkieafnbaaGreatDoorNX4
import Derived.Test.YtpdjpjkieafnbaaGreatDoorZA
import Derived.Test.YtpdjpjkieafnbaaGreatDoorDG1
set_option linter.unusedVariables false
set_option linter.unusedSimpArgs false
namespace Go.Proofs.YtpdjpjkieafnbaaGreatDoor.Li
open Go.RowKit Lb Nr
set_option maxRecDepth 100000 in
set_option maxHeartbeats 400000 in
/-- A text that is too long. -/
theorem read_long (x y z : Int) (s : List UInt8) (w : World) (hs : 4096 < s.length) :
    Calls Tryz.prog 45 #[.agg #[.int .i64 x, .int .i64 y, .int .i64 z], .string ⟨s.toArray⟩] w fun e w' =>
      e = .returned (.tuple #[.int .u64 0, .int .i64 4, .int .i64 0]) ∧ Keep w w' := by
  have hsz : (ByteArray.mk s.toArray).size = s.length := sz_mk s
  have e0 : decide ((4096 : Int) < (s.length : Int)) = true := decide_eq_true (by omega)
  go_enter Tryz.func45, Tryz.ntmps45
  go_wp2_with fail
  go_ret3
  exact ⟨rfl, (Keep.refl w).alloc _⟩
set_option maxRecDepth 100000 in
set_option maxHeartbeats 400000 in
theorem Read_long (s : List UInt8) (w : World) (hs : 4096 < s.length) :
    Calls Tryz.prog 12 #[.string ⟨s.toArray⟩] w fun e w' => e = .returned (.tuple #[.float .f64 0, .int .i64 4, .int .i64 0]) ∧ Keep w w' := by
  have hb := fun wx => binary64_any wx
  have hr := fun wx => read_long 52 2047 (-1074) s wx hs
  have hf : ∀ wx, (callFunc 19 #[.int .u64 0]).run Tryz.prog wx = .ok (.value (.float .f64 0)) wx := fun wx => f64from 0 wx
  clear hs
  go_enter Tryz.func12, Tryz.ntmps12
  go_wp2_with fail
  refine (hb _).mono ?_
  rintro e w1 ⟨rfl, k1⟩
  go_wp2_with fail
  refine (hr _).mono ?_
  rintro e w2 ⟨rfl, k2⟩
  go_wp2_with fail
  go_ret3
  exact ⟨rfl, k1.trans k2⟩
set_option maxRecDepth 100000 in
theorem binary32_any (w : World) : Calls Tryz.prog 56 #[] w fun e w' => e = .returned (.agg #[.int .i64 23, .int .i64 255, .int .i64 (-149)]) ∧ Keep w w' := by
  go_enter Tryz.func56, Tryz.ntmps56
  go_wp2_with fail
  refine bodyPost_ret (results_cell_row rfl _ _ w.heap.size 85 _ (0, 0) _ rfl (heap_alloc_new w _) Tryz.underlying85 rfl (by kernel_rfl)) rfl ?_
  exact ⟨rfl, (Keep.refl w).alloc _⟩
theorem f32from (x : Nat) (w : World) : (callFunc 28 #[.int .u32 (x : Nat)]).run Tryz.prog w = .ok (.value (.float .f32 x)) w := by
  rw [run_callFunc_extern Tryz.func28 (by kernel_rfl) (by kernel_rfl) (by kernel_rfl) (e := Extern.MathFloatBits.float32frombits) (by kernel_rfl)]
  rfl
namespace Nw
theorem sg_le (s : Bool) : sg s ≤ 2147483648 := by cases s <;> decide
set_option maxRecDepth 100000 in
set_option maxHeartbeats 400000 in
/-- Every right decimal is read as the number of binary32 nearest to what it says. -/
theorem Read_dec (s : List UInt8) (w : World) (hs : s.length ≤ 4096) (hok : cOk s = true) (hhx : cHx s = false) :
    Calls Tryz.prog 16 #[.string ⟨s.toArray⟩] w fun e w' =>
      ∃ x : Nat, e = .returned (.tuple #[.float .f32 (x + sg (cNg s)), .int .i64 0, .int .i64 0]) ∧ NB (rdN s * 10 ^ (rdP s).toNat) (10 ^ (-(rdP s)).toNat) x ∧ Keep w w' := by
  have hb := fun wx => binary32_any wx
  have hr := fun wx => read_dec s wx hs hok hhx
  have hf := fun (x : Nat) wx => f32from x wx
  have hsl := sg_le (cNg s)
  clear hok hhx
  generalize sg (cNg s) = ss at *
  go_enter Tryz.func16, Tryz.ntmps16
  go_wp2_with fail
  refine (hb _).mono ?_
  rintro e w1 ⟨rfl, k1⟩
  go_wp2_with fail
  refine (hr _).mono ?_
  rintro e w2 ⟨x, rfl, hx, k2⟩
  have hxl := hx.le (Nat.pow_pos (by omega))
  have HX : Hid (NB (rdN s * 10 ^ (rdP s).toNat) (10 ^ (-(rdP s)).toNat) x) := hx
  obtain ⟨y, hy⟩ : ∃ y, x + ss = y := ⟨_, rfl⟩
  have hf1 := fun wx => hf y wx
  rw [hy]
  have hy2 : y < 4294967296 := by omega
  have hw : IntKind.u32.wrap (y : Int) = (y : Int) := by rw [IntKind.wrap_u32]; omega
  have HY : Hid (x + ss = y) := hy
  clear hx hy hf hxl hsl
  go_wp2_with fail
  go_ret3
  exact ⟨x, by rw [HY.out]; rfl, HX.out, k1.trans k2⟩
/-- EVERY DECIMAL'S TEXT IS READ AS THE NUMBER OF BINARY32 NEAREST TO WHAT IT SAYS. -/
theorem Read_txt (ng : Bool) (A B P : List UInt8) (V : Int) (hA : allD A) (hA0 : A ≠ []) (hB : allD B) (hP : (P = [] ∧ V = 0) ∨ ∃ ns E, P = ptx ns E ∧ allD E ∧ E ≠ [] ∧ V = pwN ns E) (hl : (dtx ng A B P).length ≤ 4096) (w : World) :
    Calls Tryz.prog 16 #[.string ⟨(dtx ng A B P).toArray⟩] w fun e w' =>
      ∃ x : Nat, e = .returned (.tuple #[.float .f32 (x + sg ng), .int .i64 0, .int .i64 0]) ∧ NB (nat (A ++ B) * 10 ^ (V - (B.length : Int)).toNat) (10 ^ (-(V - (B.length : Int))).toNat) x ∧ Keep w w' := by
  have hP' : P = [] ∨ ∃ ns E, P = ptx ns E ∧ allD E ∧ E ≠ [] := by
    rcases hP with h | ⟨ns, E, h1, h2, h3, -⟩
    · exact .inl h.1
    · exact .inr ⟨ns, E, h1, h2, h3⟩
  obtain ⟨p1, p2, p3, p4, p5, X, hX, hk⟩ := dtx_parts ng A B P hA hA0 hB hP'
  obtain ⟨g1, g2, g3, g4⟩ := way_go p5
  have hall : cOk (dtx ng A B P) = true ∧ rdP (dtx ng A B P) = V - (B.length : Int) := by
    rw [p2] at g1 g2 g4
    unfold rdP
    rw [g1, g2, g4, p4]
    rcases hP with ⟨h1, h2⟩ | ⟨ns, E, h1, h2, h3, h4⟩
    · obtain ⟨q1, q2, q3, q4⟩ := at_end hX hk h1
      refine ⟨q2, ?_⟩
      rw [q3, q4, h2]
      have : pwN false [] = 0 := by decide
      rw [this]
    · subst h1
      obtain ⟨q1, q2, q3⟩ := at_pow ns E hX hk h2 h3
      exact ⟨q1, by rw [q2, q3, h4]⟩
  have hN : rdN (dtx ng A B P) = nat (A ++ B) := by unfold rdN; rw [p3, p4]
  have h := Read_dec (dtx ng A B P) w hl hall.1 p2
  rw [p1, hN, hall.2] at h
  exact h
end Nw
end Go.Proofs.YtpdjpjkieafnbaaGreatDoor.Li
set_option linter.unusedVariables false
set_option linter.unusedSimpArgs false
namespace Go.Proofs.YtpdjpjkieafnbaaGreatDoor.Li.Nw
open Go.RowKit Lb Nr
set_option maxRecDepth 100000 in
set_option maxHeartbeats 400000 in
/-- A text that is too long. -/
theorem read_longW (s : List UInt8) (w : World) (hs : 4096 < s.length) :
    Calls Tryz.prog 45 #[.agg #[.int .i64 23, .int .i64 255, .int .i64 (-149)], .string ⟨s.toArray⟩] w fun e w' =>
      e = .returned (.tuple #[.int .u64 0, .int .i64 4, .int .i64 0]) ∧ Keep w w' := by
  have hsz : (ByteArray.mk s.toArray).size = s.length := sz_mk s
  have e0 : decide ((4096 : Int) < (s.length : Int)) = true := decide_eq_true (by omega)
  go_enter Tryz.func45, Tryz.ntmps45
  go_wp2_with fail
  go_ret3
  exact ⟨rfl, (Keep.refl w).alloc _⟩
/-- What the bits, the error and the place are that a text is read as. -/
def FR (s : List UInt8) (x e a : Nat) : Prop :=
  (4096 < s.length ∧ x = 0 ∧ e = 4 ∧ a = 0) ∨
  (s.length ≤ 4096 ∧ (
    (s = [110, 97, 110] ∧ x = 2143289344 ∧ e = 0 ∧ a = 0) ∨
    (s = [105, 110, 102] ∧ x = 2139095040 ∧ e = 0 ∧ a = 0) ∨
    (s = [45, 105, 110, 102] ∧ x = 4286578688 ∧ e = 0 ∧ a = 0) ∨
    (cOk s = true ∧ e = 0 ∧ a = 0 ∧ ∃ y, x = y + sg (cNg s) ∧ (cHx s = false → NB (rdN s * 10 ^ (rdP s).toNat) (10 ^ (-(rdP s)).toNat) y) ∧ (cHx s = true → NB (rxN s * 2 ^ (rxP s).toNat) (2 ^ (-(rxP s)).toNat) y)) ∨
    (s ≠ [110, 97, 110] ∧ s ≠ [105, 110, 102] ∧ s ≠ [45, 105, 110, 102] ∧ cOk s = false ∧ x = 0 ∧ e = 20 ∧ a = fltAt s)))
/-- format.read, of every text. -/
theorem read_all (s : List UInt8) (w : World) :
    Calls Tryz.prog 45 #[.agg #[.int .i64 23, .int .i64 255, .int .i64 (-149)], .string ⟨s.toArray⟩] w fun r w' =>
      ∃ x e a : Nat, r = .returned (.tuple #[.int .u64 (x : Nat), .int .i64 (e : Nat), .int .i64 (a : Nat)]) ∧ FR s x e a ∧ Keep w w' := by
  by_cases hl : 4096 < s.length
  · refine (read_longW s w hl).mono ?_
    rintro r w' ⟨rfl, k⟩
    exact ⟨0, 4, 0, rfl, .inl ⟨hl, rfl, rfl, rfl⟩, k⟩
  have hl' : s.length ≤ 4096 := by omega
  by_cases h1 : s = [110, 97, 110]
  · subst h1
    refine (read_nan w).mono ?_
    rintro r w' ⟨rfl, k⟩
    exact ⟨_, 0, 0, rfl, .inr ⟨hl', .inl ⟨rfl, rfl, rfl, rfl⟩⟩, k⟩
  by_cases h2 : s = [105, 110, 102]
  · subst h2
    refine (read_inf w).mono ?_
    rintro r w' ⟨rfl, k⟩
    exact ⟨_, 0, 0, rfl, .inr ⟨hl', .inr (.inl ⟨rfl, rfl, rfl, rfl⟩)⟩, k⟩
  by_cases h3 : s = [45, 105, 110, 102]
  · subst h3
    refine (read_ninf w).mono ?_
    rintro r w' ⟨rfl, k⟩
    exact ⟨_, 0, 0, rfl, .inr ⟨hl', .inr (.inr (.inl ⟨rfl, rfl, rfl, rfl⟩))⟩, k⟩
  cases hok : cOk s with
  | false =>
    refine (read_bad s w hl' hok h1 h2 h3).mono ?_
    rintro r w' ⟨rfl, k⟩
    exact ⟨0, 20, fltAt s, rfl, .inr ⟨hl', .inr (.inr (.inr (.inr ⟨h1, h2, h3, hok, rfl, rfl, rfl⟩)))⟩, k⟩
  | true =>
    cases hhx : cHx s with
    | false =>
      refine (read_dec s w hl' hok hhx).mono ?_
      rintro r w' ⟨x, rfl, hx, k⟩
      exact ⟨_, 0, 0, rfl, .inr ⟨hl', .inr (.inr (.inr (.inl ⟨hok, rfl, rfl, x, rfl, fun _ => hx, fun h => by rw [hhx] at h; cases h⟩)))⟩, k⟩
    | true =>
      refine (read_hex s w hl' hok hhx).mono ?_
      rintro r w' ⟨x, rfl, hx, k⟩
      exact ⟨_, 0, 0, rfl, .inr ⟨hl', .inr (.inr (.inr (.inl ⟨hok, rfl, rfl, x, rfl, fun h => by (rw [hhx] at h; cases h), fun _ => hx⟩)))⟩, k⟩
theorem FR_lt {s : List UInt8} {x e a : Nat} (h : FR s x e a) : x < 4294967296 := by
  rcases h with ⟨-, h, -⟩ | ⟨-, h⟩
  · omega
  · rcases h with ⟨-, h, -⟩ | ⟨-, h, -⟩ | ⟨-, h, -⟩ | ⟨-, -, -, y, h, h1, h2⟩ | ⟨-, -, -, -, h, -⟩
    · omega
    · omega
    · omega
    · have hs := sg_le (cNg s)
      have hy : y ≤ 2139095040 := by
        cases hx : cHx s with
        | false => exact NB.le (h1 hx) (Nat.pow_pos (by omega))
        | true => exact NB.le (h2 hx) (Nat.two_pow_pos _)
      omega
    · omega
set_option maxRecDepth 100000 in
set_option maxHeartbeats 400000 in
/-- Read, of every text. -/
theorem Read_all (s : List UInt8) (w : World) :
    Calls Tryz.prog 16 #[.string ⟨s.toArray⟩] w fun r w' =>
      ∃ x e a : Nat, r = .returned (.tuple #[.float .f32 x, .int .i64 (e : Nat), .int .i64 (a : Nat)]) ∧ FR s x e a ∧ Keep w w' := by
  have hb := fun wx => binary32_any wx
  have hr := fun wx => read_all s wx
  have hf := fun (x : Nat) wx => f32from x wx
  go_enter Tryz.func16, Tryz.ntmps16
  go_wp2_with fail
  refine (hb _).mono ?_
  rintro r w1 ⟨rfl, k1⟩
  go_wp2_with fail
  refine (hr _).mono ?_
  rintro r w2 ⟨x, e, a, rfl, hx, k2⟩
  have HX : Hid (FR s x e a) := hx
  have hf1 := fun wx => hf x wx
  have hxl : x < 4294967296 := FR_lt hx
  have hw : IntKind.u32.wrap (x : Int) = (x : Int) := by rw [IntKind.wrap_u32]; omega
  clear hx hf hr hb
  go_wp2_with fail
  go_ret3
  exact ⟨x, e, a, rfl, HX.out, k1.trans k2⟩
end Go.Proofs.YtpdjpjkieafnbaaGreatDoor.Li.Nw
