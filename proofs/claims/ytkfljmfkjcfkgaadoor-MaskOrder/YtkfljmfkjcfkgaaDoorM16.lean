import Derived.Test.YtkfljmfkjcfkgaaDoorM15
import Derived.Test.YtkfljmfkjcfkgaaDoorBF1
set_option linter.unusedVariables false
set_option linter.unusedSimpArgs false
namespace Go.Proofs.YtkfljmfkjcfkgaaDoor
open Go.RowKit Go.Shelf
theorem gs12 {L : List Nd} (hR : Rgt L) {i : Nat} (hi : i < L.length) (hK : (shp L).K i = true) (x : Nat) : gsS (L.getD i nd0) x = 1 ∨ gsS (L.getD i nd0) x = 2 := by
  have hr := hR.2 i hi
  simp only [shp, decide_eq_true_eq] at hK
  generalize L.getD i nd0 = n at *
  have hms : n.ms = 1 ∨ n.ms = 2 := by
    unfold rightB spl at hr
    rcases hK with hk | hk
    · rw [if_neg (by omega), if_pos hk] at hr
      simp only [Bool.and_eq_true, decide_eq_true_eq] at hr
      exact hr.1.1.2.2.2.1
    · rw [if_neg (by omega), if_neg (by omega), if_pos hk] at hr
      simp only [Bool.and_eq_true, decide_eq_true_eq] at hr
      exact hr.1.1.2.2.2.1
  cases hx : nanB x
  · rcases hK with hk | hk
    · rw [gsS_number n x hx hk]; split <;> simp
    · rw [gsS_cats n x hx hk]; split <;> simp
  · rw [gsS_nan n x hx hK]; exact hms
theorem rgt_chs {L : List Nd} (hR : Rgt L) {i : Nat} (hi : i < L.length) (hK : (shp L).K i = true) (xs : List Nat) : rgtB L xs i = !chs L xs i := by
  unfold rgtB chs
  rcases gs12 hR hi hK (xs.getD (L.getD i nd0).ft.toNat 0) with h | h <;> rw [h] <;> rfl
/-- The vector's leaf, by its place. -/
def extI (L : List Nd) (xs : List Nat) (b : BT) : Nat := b.ext (chs L xs) 0
theorem ext_left {L : List Nd} (hR : Rgt L) (hT : Tr (shp L) L.length) (xs : List Nat) {b : BT} (hb : Bt (shp L) b 0) : extI L xs b < b.nl ∧ lftF (flm L xs (b.mks 0)) (extI L xs b) = true ∧ ∀ p, p < extI L xs b → lftF (flm L xs (b.mks 0)) p = false := by
  have hin : ∀ x ∈ b.mks 0, x.1 < L.length ∧ (shp L).K x.1 = true := by
    intro x hx
    obtain ⟨h1, h2, -⟩ := hb.fr_mks 0 x hx
    exact ⟨ord_lt hT.wi _ (by rw [ord_bt hT hb, ← b.fr_pre 0]; exact List.mem_map.2 ⟨_, h1, rfl⟩), h2⟩
  have hfm : ∀ x, x ∈ flm L xs (b.mks 0) ↔ x ∈ b.mks 0 ∧ chs L xs x.1 = false := by
    intro x
    unfold flm
    rw [List.mem_filter]
    constructor
    · rintro ⟨h1, h2⟩
      obtain ⟨h3, h4⟩ := hin x h1
      rw [rgt_chs hR h3 h4] at h2
      exact ⟨h1, by simpa using h2⟩
    · rintro ⟨h1, h2⟩
      obtain ⟨h3, h4⟩ := hin x h1
      exact ⟨h1, by rw [rgt_chs hR h3 h4, h2]; rfl⟩
  have h0 := b.ext_in (chs L xs) 0
  obtain ⟨h1, h2⟩ := b.ext_cut (chs L xs) 0
  refine ⟨by unfold extI; omega, ?_, ?_⟩
  · unfold lftF extI
    rw [List.all_eq_true]
    intro x hx
    obtain ⟨hx1, hx2⟩ := (hfm x).1 hx
    have := h2 x hx1 hx2
    unfold mkF
    simp only [Bool.not_eq_true', decide_eq_false_iff_not]
    exact this
  · intro p hp
    obtain ⟨x, hx1, hx2, hx3⟩ := h1 p (by omega) hp
    unfold lftF
    rw [List.all_eq_false]
    exact ⟨x, (hfm x).2 ⟨hx1, hx2⟩, by unfold mkF; simp [hx3.1, hx3.2]⟩
/-- The lowest of a set. -/
theorem low_eq {n e : Nat} {f : Nat → Bool} {l : List Nat} (h : Bi.mkl n f l) (he : e < n) (h1 : f e = true) (h2 : ∀ p, p < e → f p = false) : Bi.selI l 0 = (e : Int) := by
  have hb : e < 64 * l.length := by rw [h.1]; omega
  have ha : (Bi.allB l)[0]? = some e := by
    unfold Bi.allB
    have hsplit : List.range (64 * l.length) = List.range e ++ (List.range (64 * l.length - e)).map (· + e) := by
      conv => lhs; rw [show 64 * l.length = e + (64 * l.length - e) by omega, List.range_add]
      congr 1
      apply List.map_congr_left
      intro x _
      omega
    rw [hsplit, List.filter_append]
    have e1 : (List.range e).filter (Bi.hs l) = [] := by
      rw [List.filter_eq_nil_iff]
      intro p hp
      have hp := List.mem_range.1 hp
      rw [h.2.2, h2 p hp]
      simp
    rw [e1, List.nil_append]
    obtain ⟨k, hk⟩ : ∃ k, 64 * l.length - e = k + 1 := ⟨64 * l.length - e - 1, by omega⟩
    rw [hk, List.range_succ_eq_map, List.map_cons, List.filter_cons]
    rw [if_pos (by rw [Nat.zero_add, h.2.2, h1]; simp [he])]
    simp
  unfold Bi.selI
  rw [ha]
end Go.Proofs.YtkfljmfkjcfkgaaDoor
