import Derived.Test.YtgmnadlmejkkpaaDoorD2
import Derived.Laws.BytesArg
set_option linter.unusedVariables false
set_option linter.unusedSimpArgs false
namespace Go.Proofs.YtgmnadlmejkkpaaDoor
open Go.RowKit
theorem bitLen_top : ∀ x : Nat, x ≠ 0 → x < 18446744073709551616 → ∃ b, Lib.bitLen x = b + 1 ∧ x.testBit b = true ∧ x < 2 ^ (b + 1) := by
  intro x
  induction x using Nat.strongRecOn with
  | ind x ih =>
    intro h0 hx
    have e := Lib.bitLen_half x h0 hx
    by_cases h1 : x / 2 = 0
    · have : x = 1 := by omega
      subst this
      exact ⟨0, by decide, by decide, by decide⟩
    · obtain ⟨b, e1, e2, e3⟩ := ih (x / 2) (by omega) h1 (by omega)
      refine ⟨b + 1, by omega, by rw [Nat.testBit_succ]; exact e2, ?_⟩
      rw [Nat.pow_succ]; omega
theorem hs_word {l : List Nat} (h : ∀ i, i < 64 * l.length → hs l i = false) (hw : W64 l) (j : Nat) : l.getD j 0 = 0 := by
  by_cases hj : j < l.length
  · by_cases h0 : l.getD j 0 = 0
    · exact h0
    · obtain ⟨b, e1, e2, e3⟩ := bitLen_top _ h0 (W64_getD hw j)
      have hb : b < 64 := by
        have := Lib.bitLenAux_le 64 (l.getD j 0) 64 (W64_getD hw j)
        unfold Lib.bitLen at e1
        omega
      have := h (64 * j + b) (by omega)
      rw [hs_at l j b hb, e2] at this
      cases this
  · simp [List.getD, List.getElem?_eq_none (Nat.le_of_not_lt hj)]
/-- Highest, by the bits. -/
theorem HgP.spec {l : List Nat} {r : Int} (hw : W64 l) (h : HgP l r) : (r = -1 ∧ ∀ i, hs l i = false) ∨ ∃ p : Nat, r = p ∧ p < 64 * l.length ∧ hs l p = true ∧ ∀ j, p < j → hs l j = false := by
  rcases h with ⟨rfl, h⟩ | ⟨p, hp, h0, rfl, h⟩
  · left
    refine ⟨rfl, fun i => ?_⟩
    by_cases hi : i / 64 < l.length
    · unfold hs; rw [h _ hi]; simp
    · exact hs_out (by omega)
  · right
    obtain ⟨b, e1, e2, e3⟩ := bitLen_top _ h0 (W64_getD hw p)
    have hb : b < 64 := by
      have := Lib.bitLenAux_le 64 (l.getD p 0) 64 (W64_getD hw p)
      unfold Lib.bitLen at e1
      omega
    refine ⟨64 * p + b, by rw [e1]; omega, by omega, by rw [hs_at l p b hb]; exact e2, ?_⟩
    intro j hj
    by_cases h1 : j / 64 = p
    · unfold hs
      rw [h1]
      have g : 2 ^ (b + 1) ≤ 2 ^ (j % 64) := Nat.pow_le_pow_right (by omega) (by omega)
      exact Nat.testBit_lt_two_pow (Nat.lt_of_lt_of_le e3 g)
    · by_cases h2 : j / 64 < l.length
      · unfold hs; rw [h _ (by omega) h2]; simp
      · exact hs_out (by omega)
theorem lies_any (a : Option Addr) (c len : Nat) (i : Int) (w : World) (_ : len ≤ 17592186044416) (hi : i ≤ 9223372036854775807) :
    Calls Tryd.prog 64 #[.slice a len c, .int .i64 i] w fun e w' => e = .returned (.bool (decide (0 ≤ i ∧ i < 64 * (len : Int)))) ∧ w' = w := by
  by_cases h0 : i < 0
  · have h0' : ¬ 0 ≤ i := by omega
    go_enter Tryd.func64, Tryd.ntmps64
    go_wp2_with fail
    go_ret
    refine ⟨ret_bool ?_, rfl⟩
    simp
    omega
  · obtain ⟨n, rfl⟩ := Int.eq_ofNat_of_zero_le (show 0 ≤ i by omega)
    clear h0
    go_enter Tryd.func64, Tryd.ntmps64
    go_wp2_with fail
    go_ret
    refine ⟨ret_bool ?_, rfl⟩
    rw [decide_eq_decide]; omega
/-- The bit i, of any whole number. -/
def hasI (l : List Nat) (i : Int) : Bool := decide (0 ≤ i) && hs l i.toNat
theorem and1 (x r : Nat) (hx : x < 18446744073709551616) : (bits .and .u64 ((x : Int) / 2 ^ r) 1 == 1) = x.testBit r := by
  rw [show (x : Int) / 2 ^ r = ((x / 2 ^ r : Nat) : Int) by push_cast; rfl]
  have h1 : x / 2 ^ r < 18446744073709551616 := Nat.lt_of_le_of_lt (Nat.div_le_self _ _) hx
  have := u64_and_nat (x / 2 ^ r) 1 h1 (by omega)
  rw [show ((1 : Nat) : Int) = 1 from rfl] at this
  rw [this, Nat.and_one_is_mod, Nat.testBit_eq_decide_div_mod_eq, Bool.eq_iff_iff, beq_iff_eq, decide_eq_true_eq]
  omega
set_option maxRecDepth 100000 in
theorem Has_any (a : Option Addr) (c : Nat) (l : List Nat) (i : Int) (w : World) (hl : l.length ≤ 17592186044416) (hi : i ≤ 9223372036854775807) (hr : Rd w a l) (hw : W64 l) :
    Calls Tryd.prog 31 #[.slice a l.length c, .int .i64 i] w fun e w' => e = .returned (.bool (hasI l i)) ∧ w' = w := by
  have hL := fun w => lies_any a c l.length i w hl hi
  by_cases h : 0 ≤ i ∧ i < 64 * (l.length : Int)
  · rw [decide_eq_true h] at hL
    obtain ⟨n, rfl⟩ := Int.eq_ofNat_of_zero_le h.1
    obtain ⟨q, hq⟩ : ∃ q, n / 64 = q := ⟨_, rfl⟩
    obtain ⟨r, hrr⟩ : ∃ r, n % 64 = r := ⟨_, rfl⟩
    have hqi : (n : Int) / 64 = (q : Int) := by omega
    have hri : (n : Int) % 64 = (r : Int) := by omega
    obtain ⟨b, o, rfl, hc⟩ := hr q (by omega)
    have hxl := W64_getD hw q
    have Hv : Hid (hasI l (n : Int) = (l.getD q 0).testBit r) := by
      show _ = _
      unfold hasI hs
      rw [Int.toNat_natCast, hq, hrr, decide_eq_true (by omega), Bool.true_and]
    generalize l.getD q 0 = x at hc hxl Hv
    have hql : q < l.length := by omega
    have hr64 : r < 64 := by omega
    have h1 := and1 x r hxl
    clear hq hrr h
    go_enter Tryd.func31, Tryd.ntmps31
    go_wp2_with (go_at_call 64; refine (hL _).mono ?_; rintro e w' ⟨rfl, rfl⟩)
    go_ret
    exact ⟨ret_bool (by first | exact (h1.trans Hv.out.symm) | exact Hv.out.symm), rfl⟩
  · rw [decide_eq_false h] at hL
    have Hv : Hid (hasI l i = false) := by
      show _ = _
      unfold hasI
      by_cases h0 : 0 ≤ i
      · rw [hs_out (by omega), Bool.and_false]
      · rw [decide_eq_false h0, Bool.false_and]
    clear h
    go_enter Tryd.func31, Tryd.ntmps31
    go_wp2_with (go_at_call 64; refine (hL _).mono ?_; rintro e w' ⟨rfl, rfl⟩)
    go_ret
    exact ⟨ret_bool Hv.out.symm, rfl⟩
end Go.Proofs.YtgmnadlmejkkpaaDoor
