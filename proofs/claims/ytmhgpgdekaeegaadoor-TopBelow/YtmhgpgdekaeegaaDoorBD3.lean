import Derived.Test.YtmhgpgdekaeegaaDoorProg
import Derived.Test.YtmhgpgdekaeegaaDoorBC5
import Derived.WalkKit
import Derived.WalkSpells
import Derived.WalkLawsBesides
import Derived.Laws.CopyOwn
import Derived.Deep.Draws
import Derived.Deep.QuietTactic
import Derived.BigQuiet
import Derived.Deep.RegionWith
import Derived.Deep.RegionHeld3
import Derived.Shelf.Strconv.Itoa0
import Derived.Shelf.Spec.TrailingZeros
import Derived.RangeFuncBox
import Derived.RangeFuncLeaves
import Derived.Shelf.Abstract
import Derived.OwnWalkIn
import Derived.TacticsInMore
import Derived.LoopNIn
import Derived.LoopIn
import Derived.RangeFuncCalls
import Derived.Laws.BytesArg
set_option linter.unusedVariables false
set_option linter.unusedSimpArgs false
namespace Go.Proofs.YtmhgpgdekaeegaaDoor.Bi
open Go.RowKit
theorem lies_any (a : Option Addr) (c len : Nat) (i : Int) (w : World) (_ : len ≤ 17592186044416) (hi : i ≤ 9223372036854775807) :
    Calls Tryd.prog 19 #[.slice a len c, .int .i64 i] w fun e w' => e = .returned (.bool (decide (0 ≤ i ∧ i < 64 * (len : Int)))) ∧ w' = w := by
  by_cases h0 : i < 0
  · have h0' : ¬ 0 ≤ i := by omega
    go_enter Tryd.func19, Tryd.ntmps19
    go_wp2_with fail
    go_ret
    refine ⟨ret_bool ?_, rfl⟩
    simp
    omega
  · obtain ⟨n, rfl⟩ := Int.eq_ofNat_of_zero_le (show 0 ≤ i by omega)
    clear h0
    go_enter Tryd.func19, Tryd.ntmps19
    go_wp2_with fail
    go_ret
    refine ⟨ret_bool ?_, rfl⟩
    rw [decide_eq_decide]; omega
/-- The bit i, of any whole number. -/
def hasI (l : List Nat) (i : Int) : Bool := decide (0 ≤ i) && hs l i.toNat
theorem and1 (x r : Nat) (hx : x < 18446744073709551616) : (bits .and .u64 ((x : Int) / 2 ^ r) 1 == 1) = x.testBit r := by
  rw [show (x : Int) / 2 ^ r = ((x / 2 ^ r : Nat) : Int) by push_cast; rfl]
  have h1 : x / 2 ^ r < 18446744073709551616 := Nat.lt_of_le_of_lt (Nat.div_le_self _ _) hx
  have := u64_and_nat (x / 2 ^ r) 1 h1 (by omega)
  rw [show ((1 : Nat) : Int) = 1 from rfl] at this
  rw [this, Nat.and_one_is_mod, Nat.testBit_eq_decide_div_mod_eq, Bool.eq_iff_iff, beq_iff_eq, decide_eq_true_eq]
  omega
set_option maxRecDepth 100000 in
theorem Has_any (a : Option Addr) (c : Nat) (l : List Nat) (i : Int) (w : World) (hl : l.length ≤ 17592186044416) (hi : i ≤ 9223372036854775807) (hr : Rd w a l) (hw : W64 l) :
    Calls Tryd.prog 9 #[.slice a l.length c, .int .i64 i] w fun e w' => e = .returned (.bool (hasI l i)) ∧ w' = w := by
  have hL := fun w => lies_any a c l.length i w hl hi
  by_cases h : 0 ≤ i ∧ i < 64 * (l.length : Int)
  · rw [decide_eq_true h] at hL
    obtain ⟨n, rfl⟩ := Int.eq_ofNat_of_zero_le h.1
    obtain ⟨q, hq⟩ : ∃ q, n / 64 = q := ⟨_, rfl⟩
    obtain ⟨r, hrr⟩ : ∃ r, n % 64 = r := ⟨_, rfl⟩
    have hqi : (n : Int) / 64 = (q : Int) := by omega
    have hri : (n : Int) % 64 = (r : Int) := by omega
    obtain ⟨b, o, rfl, hc⟩ := hr q (by omega)
    have hxl := W64_getD hw q
    have Hv : Hid (hasI l (n : Int) = (l.getD q 0).testBit r) := by
      show _ = _
      unfold hasI hs
      rw [Int.toNat_natCast, hq, hrr, decide_eq_true (by omega), Bool.true_and]
    generalize l.getD q 0 = x at hc hxl Hv
    have hql : q < l.length := by omega
    have hr64 : r < 64 := by omega
    have h1 := and1 x r hxl
    clear hq hrr h
    go_enter Tryd.func9, Tryd.ntmps9
    go_wp2_with (go_at_call 19; refine (hL _).mono ?_; rintro e w' ⟨rfl, rfl⟩)
    go_ret
    exact ⟨ret_bool (by first | exact (h1.trans Hv.out.symm) | exact Hv.out.symm), rfl⟩
  · rw [decide_eq_false h] at hL
    have Hv : Hid (hasI l i = false) := by
      show _ = _
      unfold hasI
      by_cases h0 : 0 ≤ i
      · rw [hs_out (by omega), Bool.and_false]
      · rw [decide_eq_false h0, Bool.false_and]
    clear h
    go_enter Tryd.func9, Tryd.ntmps9
    go_wp2_with (go_at_call 19; refine (hL _).mono ?_; rintro e w' ⟨rfl, rfl⟩)
    go_ret
    exact ⟨ret_bool Hv.out.symm, rfl⟩
end Go.Proofs.YtmhgpgdekaeegaaDoor.Bi
