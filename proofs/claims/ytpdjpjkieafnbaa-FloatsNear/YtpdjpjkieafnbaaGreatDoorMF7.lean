import Derived.Test.YtpdjpjkieafnbaaGreatDoorProg
import Derived.Test.YtpdjpjkieafnbaaGreatDoorLE7
import Derived.Test.YtpdjpjkieafnbaaGreatDoorLF10
import Derived.Test.YtpdjpjkieafnbaaGreatDoorMC16
import Derived.WalkKit
import Derived.WalkSpells
import Derived.WalkLawsBesides
import Derived.Laws.CopyOwn
import Derived.Deep.Draws
import Derived.Deep.QuietTactic
import Derived.BigQuiet
import Derived.Laws.MathBits
import Derived.Laws.BytesArg
import Derived.Lib.OthersKept
import Derived.Deep.RegionWith
import Derived.WalkMore
import Derived.Deep.LoopGhost
import Derived.Deep.RegionLaw
set_option linter.unusedVariables false
set_option linter.unusedSimpArgs false
namespace Go.Proofs.YtpdjpjkieafnbaaGreatDoor.Li
open Go.RowKit Lb
theorem numv_from (b : List Nat) : ∀ s, b.foldl (fun a x => a * 10 + (x - 48)) s = s * 10 ^ b.length + numv b := by
  induction b with
  | nil => intro s; simp [numv]
  | cons x xs ih =>
    intro s
    have h1 := ih (s * 10 + (x - 48))
    have h2 := ih (0 * 10 + (x - 48))
    simp only [List.foldl_cons, numv, List.length_cons] at *
    rw [h1, h2, Nat.pow_succ]
    grind
theorem numv_append (a b : List Nat) : numv (a ++ b) = numv a * 10 ^ b.length + numv b := by
  rw [numv, List.foldl_append]
  exact numv_from b _
theorem numv_lt (l : List Nat) (h : ∀ x ∈ l, 48 ≤ x ∧ x < 58) : numv l < 10 ^ l.length := by
  induction l with
  | nil => simp [numv]
  | cons x xs ih =>
    have h1 := ih (fun y hy => h y (by simp [hy]))
    have h2 := h x (by simp)
    have h3 := numv_append [x] xs
    simp only [List.singleton_append] at h3
    rw [h3, List.length_cons, Nat.pow_succ]
    have h4 : numv [x] = x - 48 := by simp [numv]
    rw [h4]
    have h5 : (x - 48) * 10 ^ xs.length ≤ 9 * 10 ^ xs.length := Nat.mul_le_mul_right _ (by omega)
    omega
set_option maxRecDepth 100000 in
set_option maxHeartbeats 400000 in
theorem joined_zero (av : Option Addr) (c : Nat) (cs : List Nat) (w : World) (hcs : ∀ x ∈ cs, 48 ≤ x ∧ x < 58) (hl : cs.length ≤ 140737488355328) :
    Calls Tryz.prog 74 #[.string (S8 cs), .slice av 0 c] w fun e w' => ∃ v, e = .returned v ∧ NatR w.heap.size w' v (numv cs) ∧ Keep w w' := by
  go_enter Tryz.func74, Tryz.ntmps74
  go_wp2_with fail
  refine (joinedChunks_any cs w hcs hl).mono ?_
  rintro e w1 ⟨v, rfl, hn, hk⟩
  obtain ⟨a, c, l, rfl, -⟩ := hn.shape
  go_wp2_with fail
  go_ret
  exact ⟨_, rfl, hn, hk⟩
end Go.Proofs.YtpdjpjkieafnbaaGreatDoor.Li
