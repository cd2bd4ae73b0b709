import Derived.Test.YtgmnadlmejkkpaaDoorH3
set_option linter.unusedVariables false
set_option linter.unusedSimpArgs false
namespace Go.Proofs.YtgmnadlmejkkpaaDoor
open Go.RowKit
/-- The last bit, or -1. -/
def hiI (l : List Nat) : Int := if (allB l).length = 0 then -1 else ((allB l).getD ((allB l).length - 1) 0 : Nat)
theorem rHighest_any (a : Option Addr) (c : Nat) (l : List Nat) (w : World) (hl : l.length ≤ 1048576) (hr : Rd w a l) (hw : W64 l) :
    Calls Tryd.prog 36 #[.slice a l.length c] w fun e w' => e = .returned (.int .i64 (hiI l)) ∧ Keep w w' := by
  have hA := rAll_any a c l w hl hr hw
  have hb : (allB l).length ≤ 67108864 := by rw [allB_length]; have := cn_le l (64 * l.length); omega
  unfold hiI
  generalize allB l = z at *
  by_cases h0 : z.length = 0
  · rw [if_pos h0]
    obtain rfl := List.length_eq_zero_iff.1 h0
    clear h0
    go_enter Tryd.func36, Tryd.ntmps36
    go_wp2_with fail
    refine hA.mono ?_
    rintro e w1 ⟨v, rfl, o1, k1⟩
    obtain ⟨av, cv, rfl, hcv, -⟩ := o1.shape
    go_wp2_with fail
    go_ret
    exact ⟨rfl, k1⟩
  · rw [if_neg h0]
    go_enter Tryd.func36, Tryd.ntmps36
    go_wp2_with fail
    refine hA.mono ?_
    rintro e w1 ⟨v, rfl, o1, k1⟩
    obtain ⟨av, cv, rfl, hcv, rd⟩ := o1.shape
    obtain ⟨b, o, rfl, hc⟩ := rd (z.length - 1) (by omega)
    have hne : (((z.length : Nat) : Int) == 0) = false := by rw [beq_eq_false_iff_ne]; omega
    obtain ⟨x, hx⟩ : ∃ x, z.getD (z.length - 1) 0 = x := ⟨_, rfl⟩
    rw [hx] at hc
    have Hx : Hid (z.getD (z.length - 1) 0 = x) := hx
    obtain ⟨p, hp⟩ : ∃ p, z.length = p + 1 := ⟨z.length - 1, by omega⟩
    rw [hp, Nat.add_sub_cancel] at hc
    have Hp : Hid (z.length = p + 1) := hp
    have hpb : p ≤ 67108864 := by omega
    clear hx h0
    rw [hp] at hcv hne ⊢
    clear hp
    have hi : ((p + 1 : Nat) : Int) - 1 = (p : Int) := by omega
    have hi2 : (p : Int) + 1 - 1 = (p : Int) := by omega
    have hne2 : ((p : Int) + 1 == 0) = false := by rw [beq_eq_false_iff_ne]; omega
    go_wp2_with fail
    go_ret
    exact ⟨ret_int (by rw [Hx.out]), k1⟩
theorem last_max {z : List Nat} : ∀ {P : Nat → Bool} {m : Nat}, z = (List.range m).filter P → z.length ≠ 0 → P (z.getD (z.length - 1) 0) = true ∧ z.getD (z.length - 1) 0 < m ∧ ∀ j, z.getD (z.length - 1) 0 < j → j < m → P j = false := by
  intro P m
  induction m generalizing z with
  | zero => intro h h0; subst h; simp at h0
  | succ m ih =>
    intro h h0
    rw [List.range_succ, List.filter_append] at h
    cases hp : P m with
    | true =>
      rw [List.filter_cons_of_pos hp, List.filter_nil] at h
      have e : z.getD (z.length - 1) 0 = m := by rw [h]; simp [List.getD]
      rw [e]
      exact ⟨hp, by omega, fun j h1 h2 => by omega⟩
    | false =>
      rw [List.filter_cons_of_neg (by simp [hp]), List.filter_nil, List.append_nil] at h
      obtain ⟨h1, h2, h3⟩ := ih h h0
      refine ⟨h1, by omega, fun j h4 h5 => ?_⟩
      by_cases e : j = m
      · rw [e]; exact hp
      · exact h3 j h4 (by omega)
theorem hiI_eq {l : List Nat} {r : Int} (hw : W64 l) (h : HgP l r) : r = hiI l := by
  rcases h.spec hw with ⟨rfl, h0⟩ | ⟨p, rfl, h1, h2, h3⟩
  · have : (allB l).length = 0 := by
      rw [allB_length]
      unfold cn
      rw [List.countP_eq_zero]
      intro i _
      rw [h0]; simp
    unfold hiI; rw [if_pos this]
  · have hne : (allB l).length ≠ 0 := by
      intro e
      have e2 := List.length_eq_zero_iff.1 e
      have : p ∈ allB l := List.mem_filter.2 ⟨List.mem_range.2 h1, h2⟩
      rw [e2] at this
      simp at this
    obtain ⟨g1, g2, g3⟩ := last_max (z := allB l) rfl hne
    unfold hiI
    rw [if_neg hne]
    generalize (allB l).getD ((allB l).length - 1) 0 = q at g1 g2 g3
    congr 1
    rcases Nat.lt_trichotomy p q with e | e | e
    · rw [h3 q e] at g1; cases g1
    · exact e
    · rw [g3 p e h1] at h2; cases h2
end Go.Proofs.YtgmnadlmejkkpaaDoor
