import Derived.Test.YtaogjiffnebnkaaU3
set_option linter.unusedVariables false
set_option linter.unusedSimpArgs false
namespace Go.Proofs.Ytaogjiffnebnkaa
open Go.RowKit Go.Shelf Go.Maps
theorem nanB_no {x : Nat} (h : Mk.nanB x = false) : ¬ isNaN x := by
  intro hx
  have e : FloatKind.f64.format.order x x = none := order_nan x x (.inl hx)
  unfold Mk.nanB at h
  rw [e] at h
  cases h
/-- No threshold of a right tree is NaN. -/
theorem gat_nan {L : List Nd} (h : trE L = 0) (nr : Int) : ∀ s ∈ gat L nr, ¬ isNaN s.2.th := by
  intro s hs
  unfold gat at hs
  obtain ⟨m, hm, rfl⟩ := List.mem_map.1 hs
  obtain ⟨-, hR, -, b, hb, -, hn⟩ := Mk.lvE_ok h
  rw [mkl_of hb] at hm
  obtain ⟨h1, h2, -, -⟩ := mks_mem hR.wi hb hR.1 0 m hm
  have hr := hR.2 m.1 h1
  rw [getD_m] at hr
  simp only [Mk.shp, decide_eq_true_eq, getD_m] at h2
  show ¬ isNaN (L.getD m.1 nd0).th
  generalize L.getD m.1 nd0 = d at *
  unfold Mk.rightB at hr
  have e1 : d.m.th = d.th := rfl
  rcases h2 with hk | hk
  · rw [if_neg (by omega), if_pos hk] at hr
    simp only [Bool.and_eq_true, Bool.not_eq_true'] at hr
    exact nanB_no hr.1.2
  · rw [if_neg (by omega), if_neg (by omega), if_pos hk] at hr
    simp only [Bool.and_eq_true, decide_eq_true_eq] at hr
    rw [← e1, hr.1.2]
    unfold isNaN; omega
end Go.Proofs.Ytaogjiffnebnkaa
