import Derived.Test.YtaogjiffnebnkaaV9
import Derived.Test.YtaogjiffnebnkaaTS6
import Derived.Test.YtaogjiffnebnkaaTS9
set_option linter.unusedVariables false
set_option linter.unusedSimpArgs false
namespace Go.Proofs.Ytaogjiffnebnkaa
open Go.RowKit Go.Shelf Go.Maps
attribute [local go_sem] run_store_float
theorem ofE_small {ts : List (Int × List Nd)} {F : Int} (h : ofE ts F = 0) : ts.length ≤ 65536 ∧ ∀ j, j < ts.length → tkE (ts.getD j (0, [])).2 F = 0 := by
  unfold ofE at h
  by_cases q1 : F < 0 ∨ 65536 < F
  · rw [if_pos q1] at h; cases h
  · rw [if_neg q1] at h
    by_cases q2 : 65536 < ts.length
    · rw [if_pos q2] at h; cases h
    · rw [if_neg q2] at h
      exact ⟨by omega, firE_zero ts h⟩
theorem nodup_len : ∀ {a b : List Int}, a.Nodup → a ⊆ b → a.length ≤ b.length
  | [], b, _, _ => Nat.zero_le _
  | x :: a, b, hn, hs => by
    obtain ⟨h1, h2⟩ := List.nodup_cons.1 hn
    have hx : x ∈ b := hs List.mem_cons_self
    have h3 : a ⊆ b.erase x := by
      intro y hy
      refine (List.mem_erase_of_ne ?_).2 (hs (List.mem_cons_of_mem _ hy))
      intro e; rw [e] at hy; exact h1 hy
    have h4 := nodup_len h2 h3
    rw [List.length_erase_of_mem hx] at h4
    have h5 : 0 < b.length := List.length_pos_of_mem hx
    simp only [List.length_cons]
    omega
/-- What Of answers, as lists that can be read. -/
theorem of_rd {w w' : World} {v : Value} {ts : List (Int × List Nd)} {F : Int} (hE : ofE ts F = 0) {X : GX} {A : List Nat} {M : Nat → List CI} (hX : Con X (gall ts)) (hA : LsAt w w' v X A M) : ∃ a c, v = .slice a (A.map (lstP X M)).length c ∧ RdL w' a (A.map (lstP X M)) ∧ (A.map (lstP X M)).length ≤ 1099511627776 := by
  obtain ⟨h1, h2⟩ := ofE_small hE
  have hg := gall_len h2 ts.length (Nat.le_refl _)
  rw [List.take_length] at hg
  obtain ⟨hW, hl, hP, hm, hM, hv⟩ := hA
  have hrow : RowL w' v (A.map (item X)) := by
    rcases hv with ⟨e1, e2⟩ | ⟨g, c, cur, e1, -, -, e2, e3, -⟩
    · exact .inl ⟨e1, by rw [e2]; rfl⟩
    · exact .inr ⟨g, c, cur, by rw [List.length_map]; exact e1, e2, by rw [List.length_map]; exact e3⟩
  have hKl : ∀ i, i < X.n → ∀ j, j < 3 → ((X.wth M).K i j).length ≤ 1099511627776 := by
    intro i hi j hj
    have h3 : (X.K i j).length ≤ (gall ts).length := hX.len hi hj
    by_cases q : j = 0
    · subst q
      have e : ((X.wth M).K i 0).length = (X.K i 0).length := (hM i hi).2.len
      rw [e]; omega
    · have e : (X.wth M).K i j = X.K i j := by simp only [GX.wth]; rw [if_neg q]
      rw [e]; omega
  obtain ⟨a, c, e, r⟩ := hrow.rd (M := M) (fun i hi j hj => hW.row i ((hm i).1 hi) j hj) (fun i hi j hj => hW.cat i ((hm i).1 hi) j hj) (fun i hi => hKl i ((hm i).1 hi))
  have hXl : A.length ≤ (gall ts).length := by
    have hnd : (A.map X.f).Nodup := by
      show List.Pairwise _ _
      rw [List.pairwise_map]
      exact hP.imp fun h => by omega
    have hsub : A.map X.f ⊆ (gall ts).map fun s => s.1.ft := by
      intro φ hφ
      obtain ⟨i, hi, e⟩ := List.mem_map.1 hφ
      obtain ⟨s, hs, q⟩ := (hX.mem φ).2 ⟨i, (hm i).1 hi, e⟩
      exact List.mem_map.2 ⟨s, hs, q⟩
    have := nodup_len hnd hsub
    simpa using this
  exact ⟨a, c, by rw [List.length_map]; exact e, r, by rw [List.length_map]; omega⟩
end Go.Proofs.Ytaogjiffnebnkaa
set_option linter.unusedVariables false
set_option linter.unusedSimpArgs false
namespace Go.Proofs.Ytaogjiffnebnkaa
open Go.RowKit Go.Shelf Go.Maps
attribute [local go_sem] run_store_float
end Go.Proofs.Ytaogjiffnebnkaa
