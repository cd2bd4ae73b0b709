import Derived.Test.YtgjhbolnnnibkaaGreatDoorProg
import Derived.Test.YtgjhbolnnnibkaaGreatDoorFT7
import Derived.Test.YtgjhbolnnnibkaaGreatDoorShelf
import Derived.WalkKit
import Derived.WalkSpells
import Derived.WalkLawsBesides
import Derived.Deep.Draws
import Derived.Deep.QuietTactic
import Derived.Laws.Externs
import Derived.Shelf.Abstract
import Derived.Below
import Derived.Deep.RegionLaw
import Derived.Laws.CopyOwn
import Derived.BigRegion
import Derived.BigQuiet
import Derived.Deep.RegionHeld3
import Derived.Lib.Bytealg
import Derived.Laws.RangeString
import Derived.Laws.RangeAny
import Derived.Lib.OthersKept
import Derived.Deep.LoopGhost
import Derived.Shelf.Strings.Trim
import Derived.Shelf.Small.Strs
import Derived.Shelf.Strings.Search1
import Derived.Shelf.Strings.Repeat
set_option linter.unusedVariables false
set_option linter.unusedSimpArgs false
namespace Go.Proofs.YtgjhbolnnnibkaaGreatDoor
open Go.RowKit Go.Shelf
theorem ixC : IxC := by
  intro ts c wx
  have h := Tryz.strings_IndexByte ⟨ts.toArray⟩ (c.toNat : Int) wx
  have e : ((c.toNat : Int)).toNat.toUInt8 = c := by simp
  rw [e] at h
  have e2 : (ByteArray.mk ts.toArray).data.toList = ts := dt_mk ts
  rw [e2] at h
  exact h
/-- A whole number of 64 bits. -/
def I64 (v : Int) : Prop := -9223372036854775808 ≤ v ∧ v ≤ 9223372036854775807
theorem amt_lt {v : Int} (h : I64 v) : v.natAbs ≤ 9223372036854775808 := by unfold I64 at h; omega
theorem amount_neg (v : Int) (h : v < 0) (hb : -9223372036854775808 ≤ v) : IntKind.u64.wrap (-(IntKind.u64.wrap v)) = (v.natAbs : Int) := by
  rw [IntKind.wrap_u64, IntKind.wrap_u64]
  omega
set_option maxHeartbeats 400000 in
theorem amount_any (v : Int) (hv : I64 v) (w : World) : Calls Tryz.prog 33 #[.int .i64 v] w fun e w' => e = .returned (.int .u64 (v.natAbs : Nat)) ∧ w' = w := by
  unfold I64 at hv
  by_cases h : v < 0
  · have h1 := amount_neg v h hv.1
    go_enter Tryz.func33, Tryz.ntmps33
    go_wp2_with fail
    go_ret
    exact ⟨rfl, rfl⟩
  · have h1 : IntKind.u64.wrap v = (v.natAbs : Int) := by rw [IntKind.wrap_u64]; omega
    go_enter Tryz.func33, Tryz.ntmps33
    go_wp2_with fail
    go_ret
    exact ⟨rfl, rfl⟩
/-- The number of an amount and a sign, and the error. -/
def sgV (neg : Bool) (u : Nat) : Int := if neg = true ∧ u ≤ 9223372036854775808 then -(u : Int) else if neg = false ∧ u < 9223372036854775808 then (u : Int) else 0
def sgE (neg : Bool) (u : Nat) : Int := if neg = true ∧ u ≤ 9223372036854775808 then 0 else if neg = false ∧ u < 9223372036854775808 then 0 else 41
theorem neg_wrap (u : Nat) (h : u ≤ 9223372036854775808) : wrap64 (-(wrap64 (u : Int))) = -(u : Int) := by
  simp only [wrap64]
  omega
set_option maxHeartbeats 400000 in
theorem signed_any (neg : Bool) (u : Nat) (hu : u < 18446744073709551616) (w : World) : Calls Tryz.prog 61 #[.bool neg, .int .u64 (u : Nat)] w fun e w' => e = .returned (.tuple #[.int .i64 (sgV neg u), .int .i64 (sgE neg u)]) ∧ w' = w := by
  have HV : Hid (sgV neg u = if neg = true ∧ u ≤ 9223372036854775808 then -(u : Int) else if neg = false ∧ u < 9223372036854775808 then (u : Int) else 0) := rfl
  have HE : Hid (sgE neg u = if neg = true ∧ u ≤ 9223372036854775808 then 0 else if neg = false ∧ u < 9223372036854775808 then 0 else 41) := rfl
  generalize sgV neg u = V at *
  generalize sgE neg u = E at *
  cases neg
  · by_cases h : u < 9223372036854775808
    · have d : decide ((u : Int) < 9223372036854775808) = true := decide_eq_true (by omega)
      have e : wrap64 (u : Int) = u := IntWalk.wrap64_in _ (by omega)
      have v1 : V = (u : Int) := by rw [HV.out]; simp [h]
      have v2 : E = 0 := by rw [HE.out]; simp [h]
      subst v1 v2
      clear HV HE h hu
      go_enter Tryz.func61, Tryz.ntmps61
      go_wp2_with fail
      go_ret2
      exact ⟨by first | rfl | simp [e], rfl⟩
    · have d : decide ((u : Int) < 9223372036854775808) = false := decide_eq_false (by omega)
      have v1 : V = 0 := by rw [HV.out]; simp [h]
      have v2 : E = 41 := by rw [HE.out]; simp [h]
      subst v1 v2
      clear HV HE h hu
      go_enter Tryz.func61, Tryz.ntmps61
      go_wp2_with fail
      go_ret2
      exact ⟨by first | rfl | simp [e], rfl⟩
  · by_cases h : u ≤ 9223372036854775808
    · have d : decide ((u : Int) ≤ 9223372036854775808) = true := decide_eq_true (by omega)
      have e := neg_wrap u h
      have v1 : V = -(u : Int) := by rw [HV.out]; simp [h]
      have v2 : E = 0 := by rw [HE.out]; simp [h]
      subst v1 v2
      clear HV HE h hu
      go_enter Tryz.func61, Tryz.ntmps61
      go_wp2_with fail
      go_ret2
      exact ⟨by first | rfl | simp [e], rfl⟩
    · have d : decide ((u : Int) ≤ 9223372036854775808) = false := decide_eq_false (by omega)
      have v1 : V = 0 := by rw [HV.out]; simp [h]
      have v2 : E = 41 := by rw [HE.out]; simp [h]
      subst v1 v2
      clear HV HE h hu
      go_enter Tryz.func61, Tryz.ntmps61
      go_wp2_with fail
      go_ret2
      exact ⟨by first | rfl | simp [e], rfl⟩
end Go.Proofs.YtgjhbolnnnibkaaGreatDoor
