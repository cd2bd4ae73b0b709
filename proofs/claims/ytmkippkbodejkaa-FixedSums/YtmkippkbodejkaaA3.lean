import Derived.Test.YtmkippkbodejkaaA2
namespace Go.Proofs.Ytmkippkbodejkaa
open Go.RowKit
set_option maxRecDepth 100000 in
set_option maxHeartbeats 400000 in
theorem amount_any (v : Int) (w : World) (h1 : -9223372036854775808 ≤ v) (h2 : v ≤ 9223372036854775807) :
    Calls Try.prog 12 #[.int .i64 v] w fun e w' => e = .returned (.int .u64 (v.natAbs : Nat)) ∧ w' = w := by
  by_cases h : v < 0
  · have hd : decide (v < 0) = true := by simp; omega
    have q : IntKind.u64.wrap v = v + 18446744073709551616 := by rw [IntKind.wrap_u64]; omega
    have q2 : IntKind.u64.wrap (-(v + 18446744073709551616)) = ((v.natAbs : Nat) : Int) := by rw [IntKind.wrap_u64]; omega
    have HQ : Hid (((v.natAbs : Nat) : Int) = -v) := by show _ = _; omega
    go_enter Try.func12, Try.ntmps12
    go_wp2_with fail
    go_ret
    refine ⟨?_, rfl⟩
    have := HQ.out
    simp [IntKind.wrap_u64] at *
    first | done | omega | (congr 2; omega) | skip
  · have hd : decide (v < 0) = false := by simp; omega
    have q : IntKind.u64.wrap v = ((v.natAbs : Nat) : Int) := by rw [IntKind.wrap_u64]; omega
    go_enter Try.func12, Try.ntmps12
    go_wp2_with fail
    go_ret
    exact ⟨by rw [← q]; rfl, rfl⟩
end Go.Proofs.Ytmkippkbodejkaa
