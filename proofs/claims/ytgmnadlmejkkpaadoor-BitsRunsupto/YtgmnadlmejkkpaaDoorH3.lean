import Derived.Test.YtgmnadlmejkkpaaDoorH2
set_option linter.unusedVariables false
set_option linter.unusedSimpArgs false
namespace Go.Proofs.YtgmnadlmejkkpaaDoor
open Go.RowKit
/-- The lists of bits that are asked. -/
theorem allB_mem {l : List Nat} {x : Nat} (h : x ∈ allB l) : x < 64 * l.length := by
  unfold allB at h
  exact List.mem_range.1 (List.mem_filter.1 h).1
theorem allB_getD {l : List Nat} {k : Nat} (h : k < (allB l).length) : (allB l).getD k 0 < 64 * l.length := by
  apply allB_mem
  simp [List.getD, h]
theorem selI_get {l : List Nat} {k : Nat} (h : k < (allB l).length) : selI l k = ((allB l).getD k 0 : Nat) := by
  unfold selI
  rw [List.getElem?_eq_getElem h]
  simp [List.getD, h]
theorem selI_past {l : List Nat} {k : Nat} (h : (allB l).length ≤ k) : selI l k = -1 := selI_none (by rw [← allB_length]; exact h)
theorem rLowest_any (a : Option Addr) (c : Nat) (l : List Nat) (w : World) (hl : l.length ≤ 1048576) (hr : Rd w a l) (hw : W64 l) :
    Calls Tryd.prog 34 #[.slice a l.length c] w fun e w' => e = .returned (.int .i64 (selI l 0)) ∧ Keep w w' := by
  have hA := rAll_any a c l w hl hr hw
  have h1 := fun h => selI_get (l := l) (k := 0) h
  have h2 := fun h => selI_past (l := l) (k := 0) h
  generalize selI l 0 = s at *
  generalize allB l = z at *
  by_cases h0 : z.length = 0
  · obtain rfl := List.length_eq_zero_iff.1 h0
    obtain rfl := h2 (Nat.zero_le _)
    clear h1 h2 h0
    go_enter Tryd.func34, Tryd.ntmps34
    go_wp2_with fail
    refine hA.mono ?_
    rintro e w1 ⟨v, rfl, o1, k1⟩
    obtain ⟨av, cv, rfl, hcv, -⟩ := o1.shape
    go_wp2_with fail
    go_ret
    exact ⟨rfl, k1⟩
  · obtain rfl := h1 (by omega)
    clear h1 h2
    go_enter Tryd.func34, Tryd.ntmps34
    go_wp2_with fail
    refine hA.mono ?_
    rintro e w1 ⟨v, rfl, o1, k1⟩
    obtain ⟨av, cv, rfl, hcv, rd⟩ := o1.shape
    obtain ⟨b, o, rfl, hc⟩ := rd 0 (by omega)
    have hne : (((z.length : Nat) : Int) == 0) = false := by rw [beq_eq_false_iff_ne]; omega
    have hp : 0 < z.length := by omega
    obtain ⟨x, hx⟩ : ∃ x, z.getD 0 0 = x := ⟨_, rfl⟩
    rw [hx] at hc
    rw [Nat.add_zero] at hc
    have Hx : Hid (z.getD 0 0 = x) := hx
    clear hx h0
    go_wp2_with fail
    go_ret
    exact ⟨ret_int (by rw [Hx.out]), k1⟩
theorem rSelect_any (a : Option Addr) (c : Nat) (l : List Nat) (k : Int) (w : World) (hl : l.length ≤ 1048576) (hr : Rd w a l) (hw : W64 l) :
    Calls Tryd.prog 42 #[.slice a l.length c, .int .i64 k] w fun e w' => e = .returned (.int .i64 (if k < 0 then -1 else selI l k.toNat)) ∧ Keep w w' := by
  have hA := rAll_any a c l w hl hr hw
  by_cases hk : k < 0
  · rw [if_pos hk]
    generalize allB l = z at *
    go_enter Tryd.func42, Tryd.ntmps42
    go_wp2_with fail
    refine hA.mono ?_
    rintro e w1 ⟨v, rfl, o1, k1⟩
    obtain ⟨av, cv, rfl, hcv, -⟩ := o1.shape
    go_wp2_with fail
    go_ret
    exact ⟨rfl, k1⟩
  · rw [if_neg hk]
    obtain ⟨n, rfl⟩ := Int.eq_ofNat_of_zero_le (show 0 ≤ k by omega)
    rw [Int.toNat_natCast]
    have h1 := fun h => selI_get (l := l) (k := n) h
    have h2 := fun h => selI_past (l := l) (k := n) h
    generalize selI l n = s at *
    generalize allB l = z at *
    by_cases h0 : z.length ≤ n
    · obtain rfl := h2 h0
      clear h1 h2
      go_enter Tryd.func42, Tryd.ntmps42
      go_wp2_with fail
      refine hA.mono ?_
      rintro e w1 ⟨v, rfl, o1, k1⟩
      obtain ⟨av, cv, rfl, hcv, -⟩ := o1.shape
      go_wp2_with fail
      go_ret
      exact ⟨rfl, k1⟩
    · obtain rfl := h1 (by omega)
      clear h1 h2
      go_enter Tryd.func42, Tryd.ntmps42
      go_wp2_with fail
      refine hA.mono ?_
      rintro e w1 ⟨v, rfl, o1, k1⟩
      obtain ⟨av, cv, rfl, hcv, rd⟩ := o1.shape
      obtain ⟨b, o, rfl, hc⟩ := rd n (by omega)
      have hne : ¬ (z.length : Int) ≤ (n : Int) := by omega
      have hn2 : n < z.length := by omega
      obtain ⟨x, hx⟩ : ∃ x, z.getD n 0 = x := ⟨_, rfl⟩
      rw [hx] at hc
      have Hx : Hid (z.getD n 0 = x) := hx
      clear hx
      go_wp2_with fail
      go_ret
      exact ⟨ret_int (by rw [Hx.out]), k1⟩
end Go.Proofs.YtgmnadlmejkkpaaDoor
