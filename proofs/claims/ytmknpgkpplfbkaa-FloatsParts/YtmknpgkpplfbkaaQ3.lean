import Derived.Test.YtmknpgkpplfbkaaQ2
import Derived.Laws.Externs
set_option linter.unusedVariables false
set_option linter.unusedSimpArgs false
namespace Go.Proofs.Ytmknpgkpplfbkaa
open Go.RowKit Lb
theorem f64bits (x : Nat) (w : World) : (callFunc 13 #[.float .f64 x]).run Try.prog w = .ok (.value (.int .u64 (x : Nat))) w := by
  rw [run_callFunc_extern Try.func13 (by kernel_rfl) (by kernel_rfl) (by kernel_rfl) (e := Extern.MathFloatBits.float64bits) (by kernel_rfl)]
  rfl
theorem f64from (x : Nat) (w : World) : (callFunc 4 #[.int .u64 (x : Nat)]).run Try.prog w = .ok (.value (.float .f64 x)) w := by
  rw [run_callFunc_extern Try.func4 (by kernel_rfl) (by kernel_rfl) (by kernel_rfl) (e := Extern.MathFloatBits.float64frombits) (by kernel_rfl)]
  rfl
set_option maxRecDepth 100000 in
theorem Parts_any (b : Nat) (hb : b < 18446744073709551616) (w : World) :
    Calls Try.prog 7 #[.float .f64 b] w fun e w' => e = .returned (.tuple #[.bool (pNeg b), .int .u64 (pM b : Nat), .int .i64 (pE b), .int .u8 (pKind b : Nat)]) ∧ Keep w w' := by
  have h1 := binary64_any
  have h2 := fun wx => f64bits b wx
  have h3 := fun wx => parts_any b hb wx
  go_enter Try.func7, Try.ntmps7
  go_wp2_with (first | (go_at_call 11; refine (h1 _).mono ?_; rintro e w1 ⟨rfl, k1⟩) | (go_at_call 12; refine (h3 _).mono ?_; rintro e w2 ⟨rfl, k2⟩))
  try simp only [Exit.inBlock, Exit.then]
  refine bodyPost_ret (results_tmp4 rfl _ _ _) rfl ?_
  exact ⟨rfl, k1.trans k2⟩
end Go.Proofs.Ytmknpgkpplfbkaa
