import Derived.Test.YtmhgpgdekaeegaaDoorProg
import Derived.Test.YtmhgpgdekaeegaaDoorBB1
import Derived.WalkKit
import Derived.WalkSpells
import Derived.WalkLawsBesides
import Derived.Laws.CopyOwn
import Derived.Deep.Draws
import Derived.Deep.QuietTactic
import Derived.BigQuiet
set_option linter.unusedVariables false
set_option linter.unusedSimpArgs false
namespace Go.Proofs.YtmhgpgdekaeegaaDoor.Bi
open Go.RowKit
def wdN (n : Int) : Int := if n < 0 ∨ 1048576 < n then 0 else (n + 63) / 64
def wdE (n : Int) : Int := if n < 0 ∨ 1048576 < n then 2 else 0
theorem wd_no {n : Int} (h : n < 0 ∨ 1048576 < n) : wdN n = 0 ∧ wdE n = 2 := by unfold wdN wdE; rw [if_pos h, if_pos h]; exact ⟨rfl, rfl⟩
theorem wd_ok {n : Int} (h : ¬ (n < 0 ∨ 1048576 < n)) : wdN n = (n + 63) / 64 ∧ wdE n = 0 := by unfold wdN wdE; rw [if_neg h, if_neg h]; exact ⟨rfl, rfl⟩
theorem Words_any (n : Int) (w : World) :
    Calls Tryd.prog 27 #[.int .i64 n] w fun e w' => e = .returned (.tuple #[.int .i64 (wdN n), .int .i64 (wdE n)]) ∧ w' = w := by
  by_cases h : n < 0 ∨ 1048576 < n
  · rw [(wd_no h).1, (wd_no h).2]
    by_cases h1 : n < 0
    · go_enter Tryd.func27, Tryd.ntmps27
      go_wp2
      go_ret2
      exact ⟨rfl, rfl⟩
    · have h2 : 1048576 < n := by omega
      go_enter Tryd.func27, Tryd.ntmps27
      go_wp2
      go_ret2
      exact ⟨rfl, rfl⟩
  · rw [(wd_ok h).1, (wd_ok h).2]
    have h1 : ¬ n < 0 := by omega
    have h2 : ¬ 1048576 < n := by omega
    obtain ⟨m, rfl⟩ := Int.eq_ofNat_of_zero_le (show 0 ≤ n by omega)
    go_enter Tryd.func27, Tryd.ntmps27
    go_wp2
    go_ret2
    refine ⟨?_, rfl⟩
    show Ending.returned (.tuple #[.int .i64 (((m : Int) + 64 - 1) / 64), .int .i64 0]) = _
    rw [show (m : Int) + 64 - 1 = m + 63 by omega]
theorem Empty_ok (n : Nat) (w : World) (hn : n ≤ 1048576) :
    Calls Tryd.prog 15 #[.int .i64 (n : Nat)] w fun e w' => e = .returned (.tuple #[.slice (some ⟨w.heap.size, 0, none⟩) ((n + 63) / 64) ((n + 63) / 64), .int .i64 0]) ∧ Row w' w.heap.size (List.replicate ((n + 63) / 64) 0) ∧ Keep w w' ∧ w'.heap.size = w.heap.size + 1 := by
  have hW := fun w => Words_any (n : Int) w
  rw [(wd_ok (n := (n : Int)) (by omega)).1, (wd_ok (n := (n : Int)) (by omega)).2] at hW
  obtain ⟨m, hm⟩ : ∃ m, (n + 63) / 64 = m := ⟨_, rfl⟩
  rw [show ((n : Int) + 63) / 64 = (m : Int) by omega] at hW
  rw [hm]
  have hmb : m ≤ 1048576 := by omega
  clear hm
  go_enter Tryd.func15, Tryd.ntmps15
  go_wp2_with first
    | (go_at_call 27; refine (hW _).mono ?_; rintro e w' ⟨rfl, rfl⟩)
    | (at_make; refine wpList_make64 _ rfl _ _ rfl _ _ _ _ m rfl rfl rfl rfl (by omega) ?_; intro w1 hrow hk hsz)
  go_ret2
  exact ⟨rfl, hrow, hk, hsz⟩
theorem ones_any (n : Nat) (w : World) (hn : n ≤ 64) :
    Calls Tryd.prog 28 #[.int .i64 (n : Nat)] w fun e w' => e = .returned (.int .u64 ((2 ^ n - 1 : Nat) : Int)) ∧ w' = w := by
  have h : Hid (IntKind.u64.wrap (IntKind.u64.wrap (2 ^ n) - 1) = ((2 ^ n - 1 : Nat) : Int)) := by
    show _ = _
    by_cases e : n < 64
    · rw [wrapbit e, IntKind.wrap_u64]
      have h1 := bit_lt e
      have h2 := Nat.two_pow_pos n
      generalize 2 ^ n = p at *
      omega
    · have : n = 64 := by omega
      subst this; decide
  go_enter Tryd.func28, Tryd.ntmps28
  go_wp2
  go_ret
  exact ⟨ret_int h.out, rfl⟩
end Go.Proofs.YtmhgpgdekaeegaaDoor.Bi
