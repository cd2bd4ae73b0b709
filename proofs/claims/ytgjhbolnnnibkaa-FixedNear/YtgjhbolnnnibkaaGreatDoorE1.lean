import Derived.Test.YtgjhbolnnnibkaaGreatDoorE0
import Derived.Test.YtgjhbolnnnibkaaGreatDoorLE7
set_option linter.unusedVariables false
set_option linter.unusedSimpArgs false
namespace Go.Proofs.YtgjhbolnnnibkaaGreatDoor.Li
open Go.RowKit Lb
theorem cut0_app (a b : List Nat) (h : cut0 a ≠ []) : cut0 (a ++ b) = cut0 a ++ b := by
  unfold cut0 at *
  rw [List.dropWhile_append]
  simp [h]
theorem dec_small {n : Nat} (h : n < 10) : dec n = [48 + n] := by
  unfold dec
  by_cases h0 : n = 0
  · rw [if_pos h0, h0]
  · rw [if_neg h0, ← cut0_eq n 1 (by omega)]
    rw [dw, dw]
    unfold cut0
    have e : n % 10 = n := Nat.mod_eq_of_lt h
    rw [e, List.nil_append, List.dropWhile_cons_of_neg (by simp; omega)]
theorem dec_step {n : Nat} (h : ¬ n < 10) : dec n = dec (n / 10) ++ [48 + n % 10] := by
  have h1 : n / 10 ≠ 0 := by omega
  have hb : n / 10 < 10 ^ (n / 10) := lt_pow _
  have hb2 : n < 10 ^ (n / 10 + 1) := by rw [Nat.pow_succ]; omega
  unfold dec
  rw [if_neg (by omega), if_neg h1, ← cut0_eq n (n / 10 + 1) hb2, dw, cut0_app _ _ (cut0_ne _ _ (by omega) hb)]
/-- The digits that Print writes are the digits. -/
theorem dec_dD : ∀ (k n : Nat), n ≤ k → (dec n).map UInt8.ofNat = Go.Proofs.YtgjhbolnnnibkaaGreatDoor.dD n := by
  intro k
  induction k with
  | zero =>
    intro n hn
    rw [dec_small (by omega), Go.Proofs.YtgjhbolnnnibkaaGreatDoor.dD_small (by omega)]
    rfl
  | succ k ih =>
    intro n hn
    by_cases h : n < 10
    · rw [dec_small h, Go.Proofs.YtgjhbolnnnibkaaGreatDoor.dD_small h]
      rfl
    · rw [dec_step h, Go.Proofs.YtgjhbolnnnibkaaGreatDoor.dD_step h, List.map_append, ih (n / 10) (by omega)]
      rfl
theorem S8_dD (n : Nat) : S8 (dec n) = ⟨(Go.Proofs.YtgjhbolnnnibkaaGreatDoor.dD n).toArray⟩ := by
  unfold S8
  rw [dec_dD n n (Nat.le_refl _)]
/-- Print, of a natural that is not too long. -/
theorem Print_dD (a : Option Addr) (ca : Nat) (l : List Nat) (w : World) (h1 : l.length ≤ ca) (h2 : l.length ≤ 1000) (h3 : Rd w a l) (h4 : Lim l) :
    Calls Tryz.prog 69 #[.slice a l.length ca] w fun e w' => e = .returned (.string ⟨(Go.Proofs.YtgjhbolnnnibkaaGreatDoor.dD (val l)).toArray⟩) ∧ Keep w w' := by
  have hl : lenB l ≤ 1099511627776 := by
    have := lenB_max h4
    omega
  have q := Print_any a ca l w h1 (by omega) h3 h4 hl
  rw [S8_dD] at q
  exact q
end Go.Proofs.YtgjhbolnnnibkaaGreatDoor.Li
