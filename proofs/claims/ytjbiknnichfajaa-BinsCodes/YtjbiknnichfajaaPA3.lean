import Derived.Test.YtjbiknnichfajaaProg
import Derived.Test.YtjbiknnichfajaaPA2
import Ieee.Arith
import Derived.WalkKit
import Derived.WalkSpells
import Derived.WalkLawsBesides
import Derived.Deep.Draws
import Derived.Deep.QuietTactic
import Derived.BigQuiet
import Derived.Laws.Externs
set_option linter.unusedVariables false
set_option linter.unusedSimpArgs false
namespace Go.Proofs.Ytjbiknnichfajaa
open Go.RowKit
theorem rNaN_any (x : Nat) (w : World) (hx : x < 18446744073709551616) :
    Calls Try.prog 11 #[.int .u64 (x : Nat)] w fun e w' => e = .returned (.bool (decide (isNaN x))) ∧ w' = w := by
  have ha := andnot x hx
  have hd : Hid (isNaN x ↔ 9218868437227405312 < x % 9223372036854775808) := Iff.rfl
  obtain ⟨a, e⟩ : ∃ a, x % 9223372036854775808 = a := ⟨_, rfl⟩
  rw [e] at ha hd; clear e
  go_enter Try.func11, Try.ntmps11
  go_wp2
  go_ret
  refine ⟨ret_bool ?_, rfl⟩
  rw [decide_eq_decide, hd.out]; omega
end Go.Proofs.Ytjbiknnichfajaa
