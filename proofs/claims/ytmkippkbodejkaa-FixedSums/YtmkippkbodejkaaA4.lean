import Derived.Test.YtmkippkbodejkaaA3
namespace Go.Proofs.Ytmkippkbodejkaa
open Go.RowKit
def sgV (neg : Bool) (u : Nat) : Int := if neg = true ∧ u ≤ 9223372036854775808 then -(u : Int) else if u < 9223372036854775808 then (u : Int) else (u : Int) - 18446744073709551616
def sgB (neg : Bool) (u : Nat) : Bool := if neg = true ∧ u ≤ 9223372036854775808 then true else decide (u < 9223372036854775808)
set_option maxRecDepth 100000 in
set_option maxHeartbeats 400000 in
theorem signed_any (neg : Bool) (u : Nat) (w : World) (hu : u < 18446744073709551616) :
    Calls Try.prog 13 #[.bool neg, .int .u64 (u : Nat)] w fun e w' => e = .returned (.tuple #[.int .i64 (sgV neg u), .bool (sgB neg u)]) ∧ w' = w := by
  by_cases h : neg = true ∧ u ≤ 9223372036854775808
  · obtain ⟨rfl, h1⟩ := h
    have HV : Hid (sgV true u = -(u : Int)) := by show _ = _; unfold sgV; rw [if_pos ⟨rfl, h1⟩]
    have HB : Hid (sgB true u = true) := by show _ = _; unfold sgB; rw [if_pos ⟨rfl, h1⟩]
    have hd : decide ((u : Int) ≤ 9223372036854775808) = true := by simp; omega
    obtain ⟨s, hs⟩ : ∃ s, IntKind.i64.wrap (u : Int) = s := ⟨_, rfl⟩
    have q : IntKind.i64.wrap (-s) = -(u : Int) := by rw [← hs, IntKind.wrap_i64, IntKind.wrap_i64]; omega
    go_enter Try.func13, Try.ntmps13
    go_wp2_with fail
    go_ret2
    refine ⟨?_, rfl⟩
    rw [HV.out, HB.out]
    first | rfl | (simp; omega) | (simp [q])
  · have HV : Hid (sgV neg u = IntKind.i64.wrap (u : Int)) := by
      show _ = _; unfold sgV; rw [if_neg h, IntKind.wrap_i64]; split <;> omega
    have HB : Hid (sgB neg u = decide ((u : Int) < 9223372036854775808)) := by
      show _ = _
      unfold sgB; rw [if_neg h, decide_eq_decide]; omega
    obtain ⟨s, hs⟩ : ∃ s, IntKind.i64.wrap (u : Int) = s := ⟨_, rfl⟩
    rw [hs] at HV
    cases neg
    · go_enter Try.func13, Try.ntmps13
      go_wp2_with fail
      go_ret2
      refine ⟨?_, rfl⟩
      rw [HV.out, HB.out]
      simp
    · have hd : decide ((u : Int) ≤ 9223372036854775808) = false := by simp at h; simp; omega
      go_enter Try.func13, Try.ntmps13
      go_wp2_with fail
      go_ret2
      refine ⟨?_, rfl⟩
      rw [HV.out, HB.out]
      simp
end Go.Proofs.Ytmkippkbodejkaa
