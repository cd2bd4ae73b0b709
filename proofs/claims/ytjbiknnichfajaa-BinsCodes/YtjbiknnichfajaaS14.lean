import Derived.Test.YtjbiknnichfajaaS12
import Derived.Test.YtjbiknnichfajaaS13
set_option linter.unusedVariables false
set_option linter.unusedSimpArgs false
namespace Go.Proofs.Ytjbiknnichfajaa
open Go.RowKit Go.Shelf
attribute [local go_sem high] run_eqlC run_neqC run_guardC
/-- The numbers that are tried for a right code. -/
def ptsL (N : Nat) (l : List Nat) (t : List Int) (c : Cd) : List Nat := if c.2.2 = true then [9221120237041090561] else if 0 ≤ c.2.1 then [fl (t.getD c.2.1.toNat 0)] else if l.length = 0 then [0] else tryF N l c.1.toNat
theorem points_any (a a2 : Option Addr) (c c2 : Nat) (l : List Nat) (t : List Int) (k : Cd) (w : World) (h : Sc w a a2 l t) (hF : fitB l.length t.length k = true) :
    Calls Try.prog 18 #[SV a l.length c a2 t.length c2, CV k] w fun e w' => ∃ a' c', e = .returned (.slice a' (ptsL 9221120237041090561 l t k).length c') ∧ (ptsL 9221120237041090561 l t k).length ≤ c' ∧ RdF w' a' (ptsL 9221120237041090561 l t k) ∧ Keep w w' := by
  obtain ⟨b, q, lo⟩ := k
  cases lo
  · have hF2 : decide (0 ≤ b ∧ b ≤ l.length ∧ -1 ≤ q ∧ q < t.length) = true := hF
    rw [decide_eq_true_eq] at hF2
    by_cases hq : 0 ≤ q
    · obtain ⟨q', rfl⟩ : ∃ q' : Nat, q = q' := ⟨q.toNat, by omega⟩
      have e : ptsL 9221120237041090561 l t (b, (q' : Int), false) = [fl (t.getD q' 0)] := by unfold ptsL; rw [if_neg (by simp), if_pos hq]; rfl
      rw [e]; exact points_cat a a2 c c2 l t w h b q' (by omega)
    · obtain rfl : q = -1 := by omega
      by_cases hl : l.length = 0
      · have e : ptsL 9221120237041090561 l t (b, -1, false) = [0] := by unfold ptsL; rw [if_neg (by simp), if_neg hq, if_pos hl]
        rw [e]; exact points_none a a2 c c2 l t w h b hl
      · obtain ⟨p, rfl⟩ : ∃ p : Nat, b = p := ⟨b.toNat, by omega⟩
        have e : ptsL 9221120237041090561 l t ((p : Int), -1, false) = tryF 9221120237041090561 l p := by unfold ptsL; rw [if_neg (by simp), if_neg hq, if_neg hl]; rfl
        rw [e]
        have hpl : p ≤ l.length := by omega
        by_cases hp : p < l.length
        · cases hpv : (pvE (key (l.getD p 0)) == 0)
          · by_cases h0 : 0 < p
            · cases hnx : (nxE (key (l.getD (p - 1) 0)) == 0)
              · exact pt_inpn a a2 c c2 l t w h p (by omega) hp hpv h0 hnx
              · exact pt_inpy a a2 c c2 l t w h p (by omega) hp hpv h0 hnx
            · obtain rfl : p = 0 := by omega
              exact pt_inz a a2 c c2 l t w h hp hpv
          · by_cases h0 : 0 < p
            · cases hnx : (nxE (key (l.getD (p - 1) 0)) == 0)
              · exact pt_iypn a a2 c c2 l t w h p (by omega) hp hpv h0 hnx
              · exact pt_iypy a a2 c c2 l t w h p (by omega) hp hpv h0 hnx
            · obtain rfl : p = 0 := by omega
              exact pt_iyz a a2 c c2 l t w h hp hpv
        · cases hnx : (nxE (key (l.getD (p - 1) 0)) == 0)
          · exact pt_epn a a2 c c2 l t w h p (by omega) (by omega) (by omega) hnx
          · exact pt_epy a a2 c c2 l t w h p (by omega) (by omega) (by omega) hnx
  · have e : ptsL 9221120237041090561 l t (b, q, true) = [9221120237041090561] := by unfold ptsL; rw [if_pos rfl]
    rw [e]; exact points_lost a a2 c c2 l t w h b q
theorem atB_lt2 (N : Nat) (hN : N < 18446744073709551616) (k : Nat) : atB N k < 18446744073709551616 := by
  unfold atB; split
  · omega
  · split
    · omega
    · split <;> omega
theorem try_lt {N : Nat} (hN : N < 18446744073709551616) {l : List Nat} (hw : W64 l) (p v : Nat) (hv : v ∈ tryF N l p) : v < 18446744073709551616 := by
  unfold tryF at hv
  rw [List.mem_append] at hv
  rcases hv with hv | hv
  · split at hv
    · rename_i hp
      rw [List.mem_cons] at hv
      rcases hv with rfl | hv
      · exact hw p hp
      · split at hv
        · simp only [List.mem_singleton] at hv
          subst hv; unfold pvB; split
          · omega
          · exact atB_lt2 N hN _
        · simp at hv
    · simp at hv
  · split at hv
    · split at hv
      · simp only [List.mem_singleton] at hv
        subst hv; unfold nxB; split
        · omega
        · exact atB_lt2 N hN _
      · simp at hv
    · simp at hv
theorem pts_lt {N : Nat} (hN : N < 18446744073709551616) {l : List Nat} {t : List Int} (hw : W64 l) (hR : ScR l t) {k : Cd} (hF : fitB l.length t.length k = true) (v : Nat) (hv : v ∈ ptsL N l t k) : v < 18446744073709551616 := by
  obtain ⟨b, q, lo⟩ := k
  unfold ptsL at hv
  cases lo
  · have hF2 : decide (0 ≤ b ∧ b ≤ l.length ∧ -1 ≤ q ∧ q < t.length) = true := hF
    rw [decide_eq_true_eq] at hF2
    rw [if_neg (by simp)] at hv
    split at hv
    · rename_i h0
      have h0' : 0 ≤ q := h0
      simp only [List.mem_singleton] at hv
      have := hR.ct q.toNat (by omega)
      rw [hv]
      exact Nat.lt_trans (fl_ok this.1 this.2) (by omega)
    · split at hv
      · simp only [List.mem_singleton] at hv; omega
      · exact try_lt hN hw _ v hv
  · rw [if_pos rfl] at hv
    simp only [List.mem_singleton] at hv; omega
theorem pts_short (N : Nat) (l : List Nat) (t : List Int) (k : Cd) : (ptsL N l t k).length ≤ 3 := by
  unfold ptsL tryF
  split
  · simp
  · split
    · simp
    · split
      · simp
      · rw [List.length_append]
        have a1 : (if k.1.toNat < l.length then l.getD k.1.toNat 0 :: (if pvE (key (l.getD k.1.toNat 0)) = 0 then [pvB N (key (l.getD k.1.toNat 0))] else []) else []).length ≤ 2 := by
          split
          · split <;> simp
          · simp
        have a2 : (if 0 < k.1.toNat then (if nxE (key (l.getD (k.1.toNat - 1) 0)) = 0 then [nxB N (key (l.getD (k.1.toNat - 1) 0))] else []) else []).length ≤ 1 := by
          split
          · split <;> simp
          · simp
        omega
/-- What Point answers: of which number (nought, if of none), and the error. -/
def fnd (KC KT : List Nat) (k : Cd) (L : List Nat) : Option Nat := L.find? (fun v => decide (cdF KC KT v = k))
def ptO (V : List (List Nat)) (T : List (List Int)) (f : Int) (k : Cd) (N : Nat) : Option Nat := fnd (kys (V.getD f.toNat [])) (kts (T.getD f.toNat [])) k (ptsL N (V.getD f.toNat []) (T.getD f.toNat []) k)
theorem fnd_skip {KC KT : List Nat} {k : Cd} {L : List Nat} {i : Nat} (hi : i < L.length) (h : ∀ j, j < i → decide (cdF KC KT (L.getD j 0) = k) = false) (hv : decide (cdF KC KT (L.getD i 0) = k) = true) : fnd KC KT k L = some (L.getD i 0) := by
  unfold fnd
  rw [List.find?_eq_some_iff_getElem]
  refine ⟨hv, i, hi, by simp [List.getD, hi], fun j hj => ?_⟩
  have := h j hj
  simp only [List.getD, List.getElem?_eq_getElem (show j < L.length by omega), Option.getD_some] at this
  simp [this]
theorem fnd_none {KC KT : List Nat} {k : Cd} {L : List Nat} (h : ∀ j, j < L.length → decide (cdF KC KT (L.getD j 0) = k) = false) : fnd KC KT k L = none := by
  unfold fnd
  rw [List.find?_eq_none]
  intro x hx
  obtain ⟨j, hj, rfl⟩ := List.getElem_of_mem hx
  have := h j hj
  simp only [List.getD, List.getElem?_eq_getElem hj, Option.getD_some] at this
  simp [this]
end Go.Proofs.Ytjbiknnichfajaa
