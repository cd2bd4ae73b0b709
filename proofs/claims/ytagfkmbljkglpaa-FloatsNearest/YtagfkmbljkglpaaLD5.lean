import Derived.Test.YtagfkmbljkglpaaProg
import Derived.Test.YtagfkmbljkglpaaLD4
import Derived.WalkKit
import Derived.WalkSpells
import Derived.WalkLawsBesides
import Derived.Laws.CopyOwn
import Derived.Deep.Draws
import Derived.Deep.QuietTactic
import Derived.BigQuiet
import Derived.Laws.MathBits
import Derived.Shelf.Small.Bits
import Derived.Shelf.Strconv.Itoa0
import Derived.Shelf.Bits.Mul64
import Derived.Laws.BytesArg
import Derived.Lib.OthersKept
import Derived.Deep.RegionWith
set_option linter.unusedVariables false
set_option linter.unusedSimpArgs false
namespace Go.Proofs.Ytagfkmbljkglpaa
open Go.RowKit Lb
set_option maxRecDepth 100000 in
theorem slice32_from (wx : World) (b o ob n c k : Nat) (hk : k ≤ n) (hob : (c = k ∧ ob = o) ∨ (¬ c = k ∧ ob = o + k)) : (Instr.slice 22 (.slice (some ⟨b, o, none⟩) n c) (some (.int .i64 (k : Int))) none none).run Try.prog wx = .ok (.slice (some ⟨b, ob, none⟩) (n - k) (c - k)) wx := by
  rw [run_slice_l (P := Try.prog) wx 22 (some ⟨b, o, none⟩) n c Try.underlying22 .i64 k (by omega) (by omega)]
  have e2 : (sizeOf (Try.prog.elem 22)).run Try.prog wx = .ok 1 wx := by kernel_rfl
  rw [e2]
  rcases hob with ⟨h1, rfl⟩ | ⟨h1, rfl⟩
  · simp [Result.andThen, sliced, h1]
  · simp [Result.andThen, sliced, h1, Addr.add_lit]
theorem val_rep (n : Nat) : val (List.replicate n 0) = 0 := val_zeros _ (by intro j; simp [List.getD, List.getElem?_replicate]; split <;> rfl)
end Go.Proofs.Ytagfkmbljkglpaa
