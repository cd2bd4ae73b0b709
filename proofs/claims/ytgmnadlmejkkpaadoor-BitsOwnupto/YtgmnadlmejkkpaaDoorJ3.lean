import Derived.Test.YtgmnadlmejkkpaaDoorJ2
import Derived.Test.YtgmnadlmejkkpaaDoorI5
set_option linter.unusedVariables false
set_option linter.unusedSimpArgs false
namespace Go.Proofs.YtgmnadlmejkkpaaDoor
open Go.RowKit
/-- What Print answers. -/
def prE (l : List Nat) (n : Int) : Int := if n < 0 ∨ 1048576 < n then 2 else if (l.length : Int) ≠ (n + 63) / 64 then 6 else if n ≤ hiI l then 50 else 0
def prS (l : List Nat) (n : Int) : ByteArray := if prE l n = 0 then S8 (dg l n.toNat) else ⟨#[]⟩
theorem pr_far {l : List Nat} {n : Int} (h : n < 0 ∨ 1048576 < n) : prE l n = 2 ∧ prS l n = ⟨#[]⟩ := by
  have e : prE l n = 2 := by unfold prE; rw [if_pos h]
  exact ⟨e, by unfold prS; rw [e]; rfl⟩
theorem pr_size {l : List Nat} {n : Int} (h : ¬ (n < 0 ∨ 1048576 < n)) (h2 : (l.length : Int) ≠ (n + 63) / 64) : prE l n = 6 ∧ prS l n = ⟨#[]⟩ := by
  have e : prE l n = 6 := by unfold prE; rw [if_neg h, if_pos h2]
  exact ⟨e, by unfold prS; rw [e]; rfl⟩
theorem pr_bits {l : List Nat} {n : Int} (h : ¬ (n < 0 ∨ 1048576 < n)) (h2 : (l.length : Int) = (n + 63) / 64) (h3 : n ≤ hiI l) : prE l n = 50 ∧ prS l n = ⟨#[]⟩ := by
  have e : prE l n = 50 := by unfold prE; rw [if_neg h, if_neg (by omega), if_pos h3]
  exact ⟨e, by unfold prS; rw [e]; rfl⟩
theorem pr_ok {l : List Nat} {n : Int} (h : ¬ (n < 0 ∨ 1048576 < n)) (h2 : (l.length : Int) = (n + 63) / 64) (h3 : ¬ n ≤ hiI l) : prE l n = 0 ∧ prS l n = S8 (dg l n.toNat) := by
  have e : prE l n = 0 := by unfold prE; rw [if_neg h, if_neg (by omega), if_neg h3]
  exact ⟨e, by unfold prS; rw [e]; rfl⟩
/-- No bit is in from n on. -/
theorem hi_none {l : List Nat} {n : Nat} (h3 : ¬ (n : Int) ≤ hiI l) : ∀ i, n ≤ i → hs l i = false := by
  intro i hi
  by_cases h : i < 64 * l.length
  · cases hp : hs l i
    · rfl
    · exfalso
      have hm : i ∈ allB l := List.mem_filter.2 ⟨List.mem_range.2 h, hp⟩
      have hne : (allB l).length ≠ 0 := by
        intro e
        rw [List.length_eq_zero_iff.1 e] at hm
        simp at hm
      obtain ⟨g1, g2, g3⟩ := last_max (z := allB l) rfl hne
      unfold hiI at h3
      rw [if_neg hne] at h3
      have := g3 i (by omega) h
      rw [hp] at this; cases this
  · exact hs_out (by omega)
set_option maxRecDepth 100000 in
theorem Print_any (a : Option Addr) (c : Nat) (l : List Nat) (n : Int) (w : World) (hl : l.length ≤ 17592186044416) (hr : Rd w a l) (hw : W64 l) :
    Calls Tryd.prog 48 #[.slice a l.length c, .int .i64 n] w fun e w' => e = .returned (.tuple #[.string (prS l n), .int .i64 (prE l n)]) ∧ Keep w w' := by
  have hW := fun w => Words_any n w
  by_cases h : n < 0 ∨ 1048576 < n
  · rw [(pr_far h).1, (pr_far h).2]
    rw [(wd_no h).1, (wd_no h).2] at hW
    clear h
    go_enter Tryd.func48, Tryd.ntmps48
    go_wp2_with (go_at_call 12; refine (hW _).mono ?_; rintro e w' ⟨rfl, rfl⟩)
    go_ret2
    exact ⟨rfl, Keep.refl _⟩
  · by_cases h2 : (l.length : Int) = (n + 63) / 64
    · obtain ⟨m, rfl⟩ := Int.eq_ofNat_of_zero_le (show 0 ≤ n by omega)
      by_cases h3 : (m : Int) ≤ hiI l
      · rw [(pr_bits h h2 h3).1, (pr_bits h h2 h3).2]
        rw [(wd_ok h).1, (wd_ok h).2] at hW
        have hH := Highest_hi a c l hl hw w hr
        rw [← h2] at hW
        generalize hiI l = H at *
        have hb : (m : Int) ≤ 1048576 := by omega
        clear h h2
        go_enter Tryd.func48, Tryd.ntmps48
        go_wp2_with first
          | (go_at_call 12; refine (hW _).mono ?_; rintro e w' ⟨rfl, rfl⟩)
          | (go_at_call 35; refine hH.mono ?_; rintro e w1 ⟨rfl, k1⟩)
        go_ret2
        exact ⟨rfl, k1⟩
      · rw [(pr_ok h h2 h3).1, (pr_ok h h2 h3).2, Int.toNat_natCast]
        exact Print_ok a c m l w (by omega) (by omega) hr hw (hi_none h3)
    · rw [(pr_size h h2).1, (pr_size h h2).2]
      rw [(wd_ok h).1, (wd_ok h).2] at hW
      have hne : ((l.length : Int) != (n + 63) / 64) = true := by rw [bne_iff_ne]; exact h2
      generalize (n + 63) / 64 = q at *
      clear h
      go_enter Tryd.func48, Tryd.ntmps48
      go_wp2_with (go_at_call 12; refine (hW _).mono ?_; rintro e w' ⟨rfl, rfl⟩)
      go_ret2
      exact ⟨rfl, Keep.refl _⟩
end Go.Proofs.YtgmnadlmejkkpaaDoor
