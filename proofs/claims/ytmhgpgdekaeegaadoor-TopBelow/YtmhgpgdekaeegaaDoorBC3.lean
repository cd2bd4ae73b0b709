import Derived.Test.YtmhgpgdekaeegaaDoorProg
import Derived.Test.YtmhgpgdekaeegaaDoorBC2
import Derived.WalkKit
import Derived.WalkSpells
import Derived.WalkLawsBesides
import Derived.Laws.CopyOwn
import Derived.Deep.Draws
import Derived.Deep.QuietTactic
import Derived.BigQuiet
import Derived.Deep.RegionWith
import Derived.Deep.RegionHeld3
import Derived.Shelf.Strconv.Itoa0
import Derived.Shelf.Spec.TrailingZeros
set_option linter.unusedVariables false
set_option linter.unusedSimpArgs false
namespace Go.Proofs.YtmhgpgdekaeegaaDoor.Bi
open Go.RowKit
theorem pcn_succ (n x : Nat) : pcn (n + 1) x = pcn n x + (x.testBit n).toNat := by
  unfold pcn
  rw [List.range_succ, List.countP_append]
  cases h : x.testBit n <;> simp [h]
theorem pcn_mono {x a b : Nat} (h : a ≤ b) : pcn a x ≤ pcn b x := by
  induction b with
  | zero => have : a = 0 := by omega
            subst this; exact Nat.le_refl _
  | succ b ih =>
    by_cases e : a = b + 1
    · rw [e]; exact Nat.le_refl _
    · have := ih (by omega); rw [pcn_succ]; omega
/-- The word without its j lowest bits. -/
def clr (x : Nat) : Nat → Nat
  | 0 => x
  | j + 1 => clr x j &&& (clr x j - 1)
theorem pcn_low {x j : Nat} : ∀ n, (∀ i, i < n → x.testBit i = true → pcn i x < j) → pcn n x ≤ j
  | 0, _ => by simp [pcn]
  | n + 1, h => by
    have ih := pcn_low n (fun i hi => h i (by omega))
    rw [pcn_succ]
    cases e : x.testBit n
    · simpa using ih
    · have := h n (by omega) e; simp; omega
theorem clr_spec {x : Nat} (hx : x < 18446744073709551616) : ∀ j, j ≤ pcn 64 x → clr x j < 18446744073709551616 ∧ ∀ i, (clr x j).testBit i = (x.testBit i && decide (j ≤ pcn i x))
  | 0, _ => ⟨hx, fun i => by simp [clr]⟩
  | j + 1, h => by
    obtain ⟨h1, h2⟩ := clr_spec hx j (by omega)
    have hne : clr x j ≠ 0 := by
      intro e
      have := pcn_low (x := x) (j := j) 64 (by
        intro i _ hi
        have g := h2 i
        rw [e, hi, Bool.true_and] at g
        simp at g
        omega)
      omega
    obtain ⟨hc, hc1, hc2, hc3⟩ := ctz_spec h1 hne
    generalize Lib.ctz 64 (clr x j) = c at hc hc1 hc2 hc3
    have hxc : x.testBit c = true ∧ j ≤ pcn c x := by
      rw [h2] at hc1; simpa using hc1
    have hlow : pcn c x ≤ j := pcn_low c (by
      intro i hi hxi
      have g := hc2 i hi
      rw [h2, hxi, Bool.true_and] at g
      simpa using g)
    refine ⟨Nat.lt_of_le_of_lt Nat.and_le_left h1, ?_⟩
    intro i
    show (clr x j &&& (clr x j - 1)).testBit i = _
    rw [hc3, h2]
    cases hxi : x.testBit i
    · simp
    · rw [Bool.true_and, Bool.true_and, ← Bool.decide_and, decide_eq_decide]
      constructor
      · rintro ⟨g1, g2⟩
        have : ¬ i < c := by
          intro g3
          have g := hc2 i g3
          rw [h2, hxi, Bool.true_and] at g
          simp at g
          omega
        have g4 := pcn_mono (x := x) (show c + 1 ≤ i by omega)
        rw [pcn_succ, hxc.1] at g4
        simp at g4
        omega
      · intro g
        refine ⟨by omega, ?_⟩
        intro e; subst e; omega
/-- The bit that has k below it. -/
theorem sel_spec {x k : Nat} (hx : x < 18446744073709551616) (h : k < pcn 64 x) : clr x k ≠ 0 ∧ clr x k < 18446744073709551616 ∧ Lib.ctz 64 (clr x k) < 64 ∧ x.testBit (Lib.ctz 64 (clr x k)) = true ∧ pcn (Lib.ctz 64 (clr x k)) x = k := by
  obtain ⟨h1, h2⟩ := clr_spec hx k (by omega)
  have hne : clr x k ≠ 0 := by
    intro e
    have := pcn_low (x := x) (j := k) 64 (by
      intro i _ hi
      have g := h2 i
      rw [e, hi, Bool.true_and] at g
      simp at g
      omega)
    omega
  obtain ⟨hc, hc1, hc2, -⟩ := ctz_spec h1 hne
  generalize Lib.ctz 64 (clr x k) = c at hc hc1 hc2
  have hxc : x.testBit c = true ∧ k ≤ pcn c x := by
    rw [h2] at hc1; simpa using hc1
  have hlow : pcn c x ≤ k := pcn_low c (by
    intro i hi hxi
    have g := hc2 i hi
    rw [h2, hxi, Bool.true_and] at g
    simpa using g)
  exact ⟨hne, h1, hc, hxc.1, by omega⟩
set_option maxRecDepth 100000 in
theorem selected_any (x k : Nat) (w : World) (hx : x < 18446744073709551616) (h : k < pcn 64 x) (hT : Tab w) :
    Calls Tryd.prog 29 #[.int .u64 (x : Nat), .int .i64 (k : Nat)] w fun e w' => e = .returned (.int .i64 (Lib.ctz 64 (clr x k) : Nat)) ∧ w' = w := by
  have hk64 : k < 64 := by have := pcn_le 64 x; omega
  have HC : Hid (∀ j, j ≤ k → clr x j < 18446744073709551616 ∧ (j < k → clr x j ≠ 0)) := by
    show ∀ j, _
    intro j hj
    refine ⟨(clr_spec hx j (by omega)).1, fun h' => (sel_spec hx (by omega)).1⟩
  obtain ⟨hne, hlt, -⟩ := sel_spec hx h
  have hZ := tz_any (clr x k) hlt hne w hT
  go_enter Tryd.func29, Tryd.ntmps29
  go_wp2_with fail
  go_loop [0, 6] (fun a b => ∃ j : Nat, j ≤ k ∧ a = .int .u64 (clr x j : Nat) ∧ b = .int .i64 j) (fun _ b => k - (intOf b).toNat)
  case atStart => exact ⟨0, by omega, rfl, rfl⟩
  case round =>
    obtain ⟨j, hj, rfl, rfl⟩ := hrel
    by_cases hjk : j < k
    · have h1 := (HC.out j hj).1
      have h2 := (HC.out j hj).2 hjk
      have he : bits .and .u64 ((clr x j : Nat) : Int) (((clr x j : Nat) : Int) - 1) = ((clr x (j + 1) : Nat) : Int) := by
        rw [show ((clr x j : Nat) : Int) - 1 = ((clr x j - 1 : Nat) : Int) by omega, u64_and_nat _ _ h1 (by omega)]; rfl
      go_wp2_with fail
      go_round
      case rel => exact ⟨j + 1, by omega, by first | rfl | rw [he], by go_num⟩
      case measure => simp [intOf]; omega
    · obtain rfl : j = k := by omega
      go_wp2_with fail
      refine hZ.mono ?_
      rintro e w' ⟨rfl, rfl⟩
      go_wp2_with fail
      go_ret
      exact ⟨rfl, rfl⟩
end Go.Proofs.YtmhgpgdekaeegaaDoor.Bi
