import Derived.Test.YtonfjmibnnioiaaDoorS2
import Derived.OwnWalk
set_option linter.unusedVariables false
set_option linter.unusedSimpArgs false
namespace Go.Proofs.YtonfjmibnnioiaaDoor
open Go.RowKit Go.Shelf
def hexL : List UInt8 := [48, 49, 50, 51, 52, 53, 54, 55, 56, 57, 97, 98, 99, 100, 101, 102]
theorem hx_low : ∀ n, n < 256 → ¬ (65 ≤ n ∧ n ≤ 70) → ixB hexL (UInt8.ofNat n) = hxI (UInt8.ofNat n) := by decide +kernel
theorem hx_cap : ∀ n, n < 256 → (65 ≤ n ∧ n ≤ 70) → ixB hexL (UInt8.ofNat (n + 32)) = hxI (UInt8.ofNat n) := by decide +kernel
theorem ofN_toNat (n : Nat) (h : n < 256) : (UInt8.ofNat n).toNat = n := by simp; omega
theorem of_toNat (c : UInt8) : UInt8.ofNat c.toNat = c := by simp
set_option maxRecDepth 100000 in
theorem hexValue_any (c : UInt8) (w : World) : Calls Tryd.prog 86 #[.int .u8 (c.toNat : Nat)] w fun e w' => e = .returned (.int .i64 (hxI c)) ∧ w' = w := by
  have hl := UInt8.toNat_lt c
  by_cases h : 65 ≤ c.toNat ∧ c.toNat ≤ 70
  · have hI := IndexByte_any hexL (UInt8.ofNat (c.toNat + 32)) w
    have HX := hx_cap c.toNat hl h
    rw [of_toNat] at HX
    rw [HX, ofN_toNat _ (by omega)] at hI
    have d1 : decide ((65 : Int) ≤ (c.toNat : Int)) = true := decide_eq_true (by omega)
    have d2 : decide ((c.toNat : Int) ≤ 70) = true := decide_eq_true (by omega)
    have hw : IntKind.u8.wrap ((c.toNat : Int) + 32) = ((c.toNat + 32 : Nat) : Int) := by
      have h1 := h.1; have h2 := h.2
      simp [IntKind.wrap, IntKind.bits, IntKind.signed]; omega
    obtain ⟨g1, g2⟩ := h
    clear HX
    generalize c.toNat = n at *
    generalize hxI c = x at *
    unfold hexL at hI
    clear g1 g2 hl
    go_enter Tryd.func86, Tryd.ntmps86
    go_wp2_with (first | rw [hw] | (go_at_call 60; refine hI.mono ?_; rintro e w0 ⟨rfl, rfl⟩))
    go_ret
    exact ⟨rfl, rfl⟩
  · have hI := IndexByte_any hexL c w
    have HX := hx_low c.toNat hl h
    rw [of_toNat] at HX
    rw [HX] at hI
    obtain ⟨b1, e1⟩ : ∃ b, decide ((65 : Int) ≤ (c.toNat : Int)) = b := ⟨_, rfl⟩
    obtain ⟨b2, e2⟩ : ∃ b, decide ((c.toNat : Int) ≤ 70) = b := ⟨_, rfl⟩
    have x1 : Hid ((b1 && b2) = false) := by
      unfold Hid; rw [← e1, ← e2, ← Bool.decide_and, decide_eq_false_iff_not]; omega
    clear h HX
    generalize c.toNat = n at *
    generalize hxI c = x at *
    unfold hexL at hI
    cases b1 <;> cases b2 <;> first
      | (exact absurd x1.out (by decide))
      | (go_enter Tryd.func86, Tryd.ntmps86
         go_wp2_with (go_at_call 60; refine hI.mono ?_; rintro e w0 ⟨rfl, rfl⟩)
         go_ret
         exact ⟨rfl, rfl⟩)
theorem hxI_neg (c : UInt8) (h : hxV c = 16) : hxI c = -1 := by unfold hxI; rw [if_pos h]
theorem hxI_pos (c : UInt8) (h : hxV c ≠ 16) : hxI c = (hxV c : Nat) := by unfold hxI; rw [if_neg h]
theorem hxV_lt (c : UInt8) (h : hxV c ≠ 16) : hxV c < 16 := by
  unfold hxV at h ⊢
  repeat' split at h
  all_goals (repeat' split)
  all_goals omega
/-- What an escape answers. -/
def escV (x : (Option UInt8) × Nat) : Value := match x.1 with
  | some c => .tuple #[.int .u8 (c.toNat : Nat), .int .i64 (x.2 : Nat), .bool true]
  | none => .tuple #[.int .u8 0, .int .i64 (x.2 : Nat), .bool false]
/-- An escape of two digits. -/
def hex2 (r : List UInt8) : (Option UInt8) × Nat :=
  match r with
  | [] => (none, 2)
  | a :: r2 => if hxV a = 16 then (none, 2) else
    match r2 with
    | [] => (none, 3)
    | b :: _ => if hxV b = 16 then (none, 3) else (some (UInt8.ofNat (16 * hxV a + hxV b)), 4)
theorem ub_sixteen (a b : Nat) (ha : a < 16) (hb : b < 16) : IntKind.u8.wrap ((a : Int) * 16 + (b : Int)) = ((UInt8.ofNat (16 * a + b)).toNat : Int) := by
  rw [ofN_toNat _ (by omega)]
  simp [IntKind.wrap, IntKind.bits, IntKind.signed]; omega
end Go.Proofs.YtonfjmibnnioiaaDoor
