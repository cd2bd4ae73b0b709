import Derived.Test.YtgjhbolnnnibkaaGreatDoorProg
import Derived.Test.YtgjhbolnnnibkaaGreatDoorQQ12
import Derived.Test.YtgjhbolnnnibkaaGreatDoorNC9
import Derived.Test.YtgjhbolnnnibkaaGreatDoorNB2
import Derived.Test.YtgjhbolnnnibkaaGreatDoorAA5
import Derived.Test.YtgjhbolnnnibkaaGreatDoorAA6
import Derived.WalkKit
import Derived.WalkSpells
import Derived.WalkLawsBesides
import Derived.Laws.CopyOwn
import Derived.Deep.Draws
import Derived.Deep.QuietTactic
import Derived.BigQuiet
import Derived.Laws.MathBits
import Derived.Laws.BytesArg
import Derived.Lib.OthersKept
import Derived.Deep.RegionWith
import Derived.Laws.Externs
import Derived.WalkMore
import Derived.Deep.LoopGhost
import Derived.Deep.RegionHeld3
import Derived.Deep.CutBlock
import Derived.Deep.CutRange
set_option linter.unusedVariables false
set_option linter.unusedSimpArgs false
namespace Go.Proofs.YtgjhbolnnnibkaaGreatDoor.Li
open Go.RowKit Lb Nr
/-- The number of an amount and a sign, and the error. -/
def sgV (neg : Bool) (u : Nat) : Int := if neg = true ∧ u ≤ 9223372036854775808 then -(u : Int) else if neg = false ∧ u < 9223372036854775808 then (u : Int) else 0
def sgE (neg : Bool) (u : Nat) : Int := if neg = true ∧ u ≤ 9223372036854775808 then 0 else if neg = false ∧ u < 9223372036854775808 then 0 else 41
theorem neg_wrap (u : Nat) (h : u ≤ 9223372036854775808) : wrap64 (-(wrap64 (u : Int))) = -(u : Int) := by
  simp only [wrap64]
  omega
set_option maxHeartbeats 400000 in
theorem rsigned_any (neg : Bool) (u : Nat) (hu : u < 18446744073709551616) (w : World) : Calls Tryz.prog 26 #[.bool neg, .int .u64 (u : Nat)] w fun e w' => ∃ x ok, e = .returned (.tuple #[.int .i64 x, .bool ok]) ∧ (ok = true → x = sgV neg u ∧ sgE neg u = 0) ∧ (ok = false → sgV neg u = 0 ∧ sgE neg u = 41) ∧ w' = w := by
  have HV : Hid (sgV neg u = if neg = true ∧ u ≤ 9223372036854775808 then -(u : Int) else if neg = false ∧ u < 9223372036854775808 then (u : Int) else 0) := rfl
  have HE : Hid (sgE neg u = if neg = true ∧ u ≤ 9223372036854775808 then 0 else if neg = false ∧ u < 9223372036854775808 then 0 else 41) := rfl
  generalize sgV neg u = V at *
  generalize sgE neg u = E at *
  cases neg
  · by_cases h : u < 9223372036854775808
    · have d : decide ((u : Int) < 9223372036854775808) = true := decide_eq_true (by omega)
      have e : wrap64 (u : Int) = u := IntWalk.wrap64_in _ (by omega)
      have v1 : V = (u : Int) := by rw [HV.out]; simp [h]
      have v2 : E = 0 := by rw [HE.out]; simp [h]
      subst v1 v2
      clear HV HE h hu
      go_enter Tryz.func26, Tryz.ntmps26
      go_wp2
      go_ret2
      refine ⟨_, _, rfl, ?_, ?_, rfl⟩ <;> first | (simp; done) | (simp; exact e) | (simp [e]; done)
    · have d : decide ((u : Int) < 9223372036854775808) = false := decide_eq_false (by omega)
      have v1 : V = 0 := by rw [HV.out]; simp [h]
      have v2 : E = 41 := by rw [HE.out]; simp [h]
      subst v1 v2
      clear HV HE h hu
      go_enter Tryz.func26, Tryz.ntmps26
      go_wp2
      go_ret2
      refine ⟨_, _, rfl, ?_, ?_, rfl⟩ <;> first | (simp; done) | (simp; exact e) | (simp [e]; done)
  · by_cases h : u ≤ 9223372036854775808
    · have d : decide ((u : Int) ≤ 9223372036854775808) = true := decide_eq_true (by omega)
      have e := neg_wrap u h
      have v1 : V = -(u : Int) := by rw [HV.out]; simp [h]
      have v2 : E = 0 := by rw [HE.out]; simp [h]
      subst v1 v2
      clear HV HE h hu
      go_enter Tryz.func26, Tryz.ntmps26
      go_wp2
      go_ret2
      refine ⟨_, _, rfl, ?_, ?_, rfl⟩ <;> first | (simp; done) | (simp; exact e) | (simp [e]; done)
    · have d : decide ((u : Int) ≤ 9223372036854775808) = false := decide_eq_false (by omega)
      have d2 : decide ((u : Int) < 9223372036854775808) = false := decide_eq_false (by omega)
      have v1 : V = 0 := by rw [HV.out]; simp [h]
      have v2 : E = 41 := by rw [HE.out]; simp [h]
      subst v1 v2
      clear HV HE h hu
      go_enter Tryz.func26, Tryz.ntmps26
      go_wp2
      go_ret2
      refine ⟨_, _, rfl, ?_, ?_, rfl⟩ <;> first | (simp; done) | (simp; exact e) | (simp [e]; done)
end Go.Proofs.YtgjhbolnnnibkaaGreatDoor.Li
