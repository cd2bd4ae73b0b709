import Derived.Test.YtaogjiffnebnkaaR11
set_option linter.unusedVariables false
set_option linter.unusedSimpArgs false
namespace Go.Proofs.Ytaogjiffnebnkaa
open Go.RowKit Go.Shelf Go.Maps
theorem blk_any (a : Option Addr) (n c m d : Nat) : (Value.slice a n c).ownBlock = (Value.slice a m d).ownBlock := by cases a <;> rfl
/-- The categories of different rows lie in different blocks. -/
def CD (X : GX) : Prop := ∀ i j i' j', i < X.n → i' < X.n → j < 3 → j' < 3 → (i ≠ i' ∨ j ≠ j') → ∀ r ∈ X.K i j, ∀ r' ∈ X.K i' j', ∀ b, (Value.slice r.2.1 0 0).ownBlock = some b → (Value.slice r'.2.1 0 0).ownBlock ≠ some b
/-- What was gathered stands in the rows, and in blocks of their own. -/
def ConD (X : GX) (S : List (Nd × Ct)) : Prop := Con X S ∧ CD X
theorem CD.nil : CD GX.nil := fun i j i' j' h => by simp [GX.nil] at h
theorem CD.put {X : GX} (h : CD X) (φ : Int) (b : Nat) : CD (X.put φ b) := by
  intro i j i' j' h1 h2 h3 h4 hne r hr r' hr'
  simp only [GX.put] at h1 h2 hr hr'
  by_cases e1 : i = X.n
  · rw [if_pos e1] at hr; cases hr
  · by_cases e2 : i' = X.n
    · rw [if_pos e2] at hr'; cases hr'
    · rw [if_neg e1] at hr
      rw [if_neg e2] at hr'
      exact h i j i' j' (by omega) (by omega) h3 h4 hne r hr r' hr'
theorem CD.wth {X : GX} (h : CD X) {M : Nat → List CI} (hM : ∀ i, i < X.n → ∀ r ∈ M i, r ∈ X.K i 0) : CD (X.wth M) := by
  intro i j i' j' h1 h2 h3 h4 hne r hr r' hr'
  simp only [GX.wth] at hr hr'
  replace h1 : i < X.n := h1
  replace h2 : i' < X.n := h2
  have e1 : r ∈ X.K i j := by
    by_cases q : j = 0
    · rw [if_pos q] at hr; rw [q]; exact hM i h1 r hr
    · rw [if_neg q] at hr; exact hr
  have e2 : r' ∈ X.K i' j' := by
    by_cases q : j' = 0
    · rw [if_pos q] at hr'; rw [q]; exact hM i' h2 r' hr'
    · rw [if_neg q] at hr'; exact hr'
  exact h i j i' j' h1 h2 h3 h4 hne r e1 r' e2
theorem CD.app {w0 w W : World} {mb cb i : Nat} {M : Ct} {ma : Option Addr} {mp : Nat} {X : GX} (h : St w0 w mb cb i M ma mp X W) (hcd : CD X) {j : Nat} (hj : j < 3) {W2 : World} {N : Ct} {va : Option Addr} {cc : Nat}
    (hO : OwnZ 3 W.heap.size W2 (.slice va N.cs.length cc) N.cs) (v' : Value) : CD (X.app i j v' (N, va, cc)) := by
  have hold : ∀ i1 j1, i1 < X.n → j1 < 3 → ∀ r ∈ X.K i1 j1, ∀ b, (Value.slice r.2.1 0 0).ownBlock = some b → b < W.heap.size := by
    intro i1 j1 h1 h2 r hr b hb
    rw [blk_any _ _ _ r.1.cs.length r.2.2] at hb
    obtain ⟨-, c2, hc⟩ := (h.G.cat i1 h1 j1 h2 r hr).1.block hb
    exact (Array.getElem?_eq_some_iff.1 hc).1
  have hnew : ∀ b, (Value.slice va 0 0).ownBlock = some b → W.heap.size ≤ b := by
    intro b hb
    rw [blk_any _ _ _ N.cs.length cc] at hb
    exact (hO.block hb).1
  intro i1 j1 i2 j2 h1 h2 h3 h4 hne r hr r' hr' b hb hb'
  replace h1 : i1 < X.n := h1
  replace h2 : i2 < X.n := h2
  simp only [GX.app] at hr hr'
  by_cases e1 : i1 = i ∧ j1 = j
  · rw [if_pos e1] at hr
    rw [if_neg (by omega)] at hr'
    rcases List.mem_append.1 hr with hr | hr
    · exact hcd i j i2 j2 h.hi h2 hj h4 (by omega) r hr r' hr' b hb hb'
    · obtain rfl := List.mem_singleton.1 hr
      have a1 := hnew b hb
      have a2 := hold i2 j2 h2 h4 r' hr' b hb'
      omega
  · rw [if_neg e1] at hr
    by_cases e2 : i2 = i ∧ j2 = j
    · rw [if_pos e2] at hr'
      rcases List.mem_append.1 hr' with hr' | hr'
      · exact hcd i1 j1 i j h1 h.hi h3 hj (by omega) r hr r' hr' b hb hb'
      · obtain rfl := List.mem_singleton.1 hr'
        have a1 := hnew b hb'
        have a2 := hold i1 j1 h1 h3 r hr b hb
        omega
    · rw [if_neg e2] at hr'
      exact hcd i1 j1 i2 j2 h1 h2 h3 h4 hne r hr r' hr' b hb hb'
end Go.Proofs.Ytaogjiffnebnkaa
