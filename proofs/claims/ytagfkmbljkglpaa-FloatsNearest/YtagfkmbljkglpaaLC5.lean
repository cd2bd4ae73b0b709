import Derived.Test.YtagfkmbljkglpaaProg
import Derived.Test.YtagfkmbljkglpaaLC4
import Derived.WalkKit
import Derived.WalkSpells
import Derived.WalkLawsBesides
import Derived.Laws.CopyOwn
import Derived.Deep.Draws
import Derived.Deep.QuietTactic
import Derived.BigQuiet
import Derived.Laws.MathBits
set_option linter.unusedVariables false
set_option linter.unusedSimpArgs false
namespace Go.Proofs.Ytagfkmbljkglpaa
open Go.RowKit Lb
def smallV (l : List Nat) : Nat := if nl l ≤ 2 then val l else 0
def smallB (l : List Nat) : Bool := decide (nl l ≤ 2)
set_option maxRecDepth 100000 in
set_option maxHeartbeats 400000 in
theorem Small_any (a : Option Addr) (c : Nat) (l : List Nat) (w : World) (hnc : l.length ≤ c) (hl : l.length ≤ 70368744177664) (hr : Rd w a l) (hm : Lim l) :
    Calls Try.prog 23 #[.slice a l.length c] w fun e w' => e = .returned (.tuple #[.int .u64 (smallV l : Nat), .bool (smallB l)]) ∧ w' = w := by
  have h1 := nl_le l
  have e1 : (l.take (nl l)).length = nl l := by simp; omega
  have t1 := trim_any a c l w hnc (by omega) hr
  have t2 := low64_any a c (l.take (nl l)) w (by omega) (hr.take _) (Lim_take hm _)
  rw [e1] at t2
  by_cases h2 : 2 < nl l
  · go_enter Try.func23, Try.ntmps23
    go_wp2_with fail
    refine t1.mono ?_
    rintro e w' ⟨rfl, rfl⟩
    go_wp2
    go_ret2
    exact ⟨by simp [smallV, smallB, show ¬ nl l ≤ 2 by omega], rfl⟩
  · have hd : decide (2 < nl l) = false := by simp; omega
    have ev : val ((l.take (nl l)).take 2) = val l := by rw [List.take_of_length_le (by omega), val_take_nl]
    rw [ev] at t2
    go_enter Try.func23, Try.ntmps23
    go_wp2_with fail
    refine t1.mono ?_
    rintro e w' ⟨rfl, rfl⟩
    go_wp2_with fail
    refine t2.mono ?_
    rintro e w' ⟨rfl, rfl⟩
    go_wp2
    go_ret2
    exact ⟨by simp [smallV, smallB, show nl l ≤ 2 by omega], rfl⟩
theorem and64 (n : Nat) (hn : n < 18446744073709551616) : bits .and .u64 (n : Int) 4294967295 = ((n % 4294967296 : Nat) : Int) := by
  have := u64_and_nat n 4294967295 hn (by omega)
  rw [show n &&& 4294967295 = n % 4294967296 from Nat.and_two_pow_sub_one_eq_mod n 32] at this
  exact this
def lenB (l : List Nat) : Nat := if nl l = 0 then 0 else 32 * (nl l - 1) + bitLen (l.getD (nl l - 1) 0)
theorem bitLen_half (x : Nat) (h : 0 < x) : bitLen x = bitLen (x / 2) + 1 := by
  by_cases h1 : x / 2 = 0
  · have : x = 1 := by omega
    subst this; decide
  · have := bitLen_shift x 1 (by simpa using h1)
    simp at this; omega
theorem bitLen_le (x : Nat) (h : x < 4294967296) : bitLen x ≤ 32 := by
  unfold bitLen
  split
  · omega
  · rename_i h0
    have := (Nat.log2_lt h0).2 (show x < 2 ^ 32 from h)
    omega
end Go.Proofs.Ytagfkmbljkglpaa
