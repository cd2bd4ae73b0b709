import Derived.Test.YtpdjpjkieafnbaaGreatDoorProg
import Derived.Test.YtpdjpjkieafnbaaGreatDoorLF7
import Derived.WalkKit
import Derived.WalkSpells
import Derived.WalkLawsBesides
import Derived.Laws.CopyOwn
import Derived.Deep.Draws
import Derived.Deep.QuietTactic
import Derived.BigQuiet
import Derived.Laws.MathBits
import Derived.Laws.BytesArg
import Derived.Lib.OthersKept
import Derived.Deep.RegionWith
import Derived.WalkMore
import Derived.Deep.LoopGhost
import Derived.Deep.RegionLaw
set_option linter.unusedVariables false
set_option linter.unusedSimpArgs false
namespace Go.Proofs.YtpdjpjkieafnbaaGreatDoor.Li
open Go.RowKit Lb
set_option maxRecDepth 100000 in
theorem slice70_to (wx : World) (b n c k : Nat) (hk : k ≤ c) : (Instr.slice 117 (.slice (some ⟨b, 0, none⟩) n c) none (some (.int .i64 (k : Nat))) none).run Tryz.prog wx = .ok (.slice (some ⟨b, 0, none⟩) k c) wx := by
  rw [run_slice_h (P := Tryz.prog) wx 117 (some ⟨b, 0, none⟩) n c Tryz.underlying117 .i64 k (by omega) (by omega)]
  have e2 : (sizeOf (Tryz.prog.elem 117)).run Tryz.prog wx = .ok 1 wx := by kernel_rfl
  rw [e2]
  simp [Result.andThen, sliced, Addr.add]
end Go.Proofs.YtpdjpjkieafnbaaGreatDoor.Li
set_option linter.unusedVariables false
set_option linter.unusedSimpArgs false
namespace Go.Proofs.YtpdjpjkieafnbaaGreatDoor.Li
open Go.RowKit Lb
theorem dw_two : ∀ (j h v : Nat), dw (h + j) v = dw h (v / 10 ^ j) ++ dw j v
  | 0, h, v => by simp [dw]
  | j + 1, h, v => by
    rw [← Nat.add_assoc, dw, dw_two j h (v / 10), dw, Nat.div_div_eq_div_mul, Nat.pow_succ, Nat.mul_comm 10, List.append_assoc]
theorem dw_mod : ∀ (j v : Nat), dw j (v % 10 ^ j) = dw j v
  | 0, v => by simp [dw]
  | j + 1, v => by
    have h1 : v % 10 ^ (j + 1) / 10 = v / 10 % 10 ^ j := by
      rw [Nat.pow_succ, Nat.mul_comm, Nat.mod_mul_right_div_self]
    have h2 : v % 10 ^ (j + 1) % 10 = v % 10 := by
      rw [Nat.pow_succ]
      exact Nat.mod_mul_left_mod v (10 ^ j) 10
    rw [dw, dw, h1, h2, dw_mod j (v / 10)]
/-- The digits of the two parts of a halved number. -/
theorem dw_halves (h v : Nat) : dw (2 * h) v = dw h (v / 10 ^ h) ++ dw h (v % 10 ^ h) := by
  rw [show 2 * h = h + h by omega, dw_two, dw_mod]
end Go.Proofs.YtpdjpjkieafnbaaGreatDoor.Li
