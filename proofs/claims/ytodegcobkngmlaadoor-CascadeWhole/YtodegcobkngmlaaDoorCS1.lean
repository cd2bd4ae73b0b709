import Derived.Test.YtodegcobkngmlaaDoorCM1
import Derived.Test.YtodegcobkngmlaaDoorG4
import Derived.Deep.RegionLaw
import Derived.Deep.RegionHeld3
import Derived.BigRegion
set_option linter.unusedVariables false
set_option linter.unusedSimpArgs false
namespace Go.Proofs.YtodegcobkngmlaaDoor
open Go.RowKit Go.Shelf
attribute [local go_sem] run_store_float
theorem cell_same {w w' : World} {b o : Nat} (h : w'.heap[b]? = w.heap[b]?) : w'.cell? ⟨b, o, none⟩ = w.cell? ⟨b, o, none⟩ := World.cell?_of_block (w := w) h
theorem cell_set_ne {w : World} {g i b o : Nat} {v : Value} (h : b ≠ g) : (w.setCell ⟨g, i, none⟩ v).cell? ⟨b, o, none⟩ = w.cell? ⟨b, o, none⟩ := World.cell?_of_block (w := w) (neq_set w g i v b h)
/-- Two cells written over. -/
theorem put2 {w : World} {g T : Nat} {x0 x1 : Value} (h : w.heap[g]? = some (.cells #[x0, x1] T (0, 0))) (v0 v1 : Value) :
    ∃ w', ((w.setCell ⟨g, 0, none⟩ v0).setCell ⟨g, 1, none⟩ v1) = w' ∧ w'.heap[g]? = some (.cells #[v0, v1] T (0, 0)) ∧ (∀ k, k ≠ g → w'.heap[k]? = w.heap[k]?) ∧ w'.heap.size = w.heap.size ∧ (∀ w0, Keep w0 w → w0.heap.size ≤ g → Keep w0 w') := by
  have a0 := heap_setCell_same w g 0 _ T v0 h
  have a1 := heap_setCell_same _ g 1 _ T v1 a0
  exact ⟨_, rfl, by simpa using a1, fun k hk => by rw [neq_set _ _ _ _ k hk, neq_set _ _ _ _ k hk], by simp only [World.size_setCell], fun w0 k hg => (k.setCell (p := ⟨g, 0, none⟩) hg v0).setCell (p := ⟨g, 1, none⟩) hg v1⟩
set_option maxRecDepth 100000 in
set_option maxHeartbeats 1000000 in
theorem spanOf_any (na : Option Addr) (nc : Nat) (L : List Nd) (w : World) (hL : L.length ≤ 1759218604441) (hr : RdN w na L) :
    Calls Tryd.prog 30 #[.slice na L.length nc] w fun e w' => e = .returned (.agg #[.int .i64 (sp L).1, .int .i64 (sp L).2]) ∧ Keep w w' := by
  obtain ⟨w1, hw1, k1, t1, s1⟩ := boxed w #[.int .i64 0, .int .i64 0] 37
  obtain ⟨w2, hw2, k2, t2, s2⟩ := boxed w1 #[.int .i64 0, .int .i64 0] 37
  obtain ⟨s, hs⟩ : ∃ s, w.heap.size = s := ⟨_, rfl⟩
  obtain ⟨d, hd⟩ : ∃ d, w1.heap.size = d := ⟨_, rfl⟩
  rw [hs] at t1
  rw [hd] at t2
  have Q : Hid (w.heap.size = s ∧ d = s + 1) := ⟨hs, by omega⟩
  have T1 := k2.at t1
  have k02 := k1.trans k2
  have HS : Hid (sp L = spF L (L.length - 0) 0 false 0 0) := rfl
  generalize sp L = R at HS ⊢
  replace s1 : Hid _ := s1
  replace s2 : Hid _ := s2
  go_enter Tryd.func30, Tryd.ntmps30
  go_wp2_with (first | rw [hw1] | rw [hw2])
  go_loopw [4, 9] (fun mv iv wr => ∃ (k : Nat) (m : Bool) (a b : Int), mv = .bool m ∧ iv = .int .i64 k ∧ k ≤ L.length ∧ Hid (R = spF L (L.length - k) k m a b) ∧ wr.heap[d]? = some (.cells #[.int .i64 a, .int .i64 b] 37 (0, 0)) ∧ wr.heap[s]? = some (.cells #[.int .i64 0, .int .i64 0] 37 (0, 0)) ∧ Keep w wr) (fun _ iv _ => L.length - (intOf iv).toNat)
  case atStart => exact ⟨0, false, 0, 0, rfl, rfl, by omega, HS, t2, T1, k02⟩
  case round =>
    obtain ⟨k, m, a, b, rfl, rfl, hk, H, D, S, kr⟩ := hrel
    obtain ⟨a0, a1, f0, f1⟩ := cells2 D
    obtain ⟨b0, b1, g0, g1⟩ := cells2 S
    by_cases hkl : k < L.length
    · have hkc : (k : Int) < (L.length : Int) := by omega
      obtain ⟨bn, on, ca, cap, rfl, hn⟩ := (hr.keep kr) k hkl
      have h0 := hn.c0
      have h1 := hn.c1
      have H' : Hid (R = if (L.getD k nd0).kd = 1 then (if m = true then spF L (L.length - (k + 1)) (k + 1) true (min a (L.getD k nd0).vl) (max b (L.getD k nd0).vl) else spF L (L.length - (k + 1)) (k + 1) true (L.getD k nd0).vl (L.getD k nd0).vl) else spF L (L.length - (k + 1)) (k + 1) m a b) := by
        have h := H.out
        rw [show L.length - k = (L.length - (k + 1)) + 1 by omega, spF] at h
        exact h
      generalize L.getD k nd0 = n at *
      by_cases h1k : n.kd = 1
      · have H2 := H'.out
        rw [if_pos h1k] at H2
        have hkd : ((n.kd : Int) != 1) = false := by rw [h1k]; rfl
        cases m
        · rw [if_neg (by simp)] at H2
          replace H2 : Hid _ := H2
          obtain ⟨wn, hwn, D2, n2, z2, p2⟩ := put2 D (.int .i64 n.vl) (.int .i64 n.vl)
          replace hwn : Hid _ := hwn
          go_wp2_with fail
          go_region
          all_goals
            go_wp2_with fail
            have hwn := hwn.out
            subst hwn
            exact ⟨⟨k + 1, true, n.vl, n.vl, rfl, by go_num, by omega, H2, D2, (n2 s (by have := Q.out; omega)).trans S, (p2 w kr (by have := Q.out; omega)).drew⟩, by simp [intOf]; omega⟩
        · rw [if_pos rfl] at H2
          replace H2 : Hid _ := H2
          have e1 : min a n.vl = if n.vl < a then n.vl else a := by split <;> omega
          have e2 : max b n.vl = if b < n.vl then n.vl else b := by split <;> omega
          have e3 : max b n.vl = if n.vl > b then n.vl else b := by split <;> omega
          obtain ⟨wn, hwn, D2, n2, z2, p2⟩ := put2 D (.int .i64 (min a n.vl)) (.int .i64 (max b n.vl))
          replace hwn : Hid _ := hwn
          replace e1 : Hid _ := e1
          replace e2 : Hid _ := e2
          replace e3 : Hid _ := e3
          go_wp2_with fail
          go_region
          all_goals
            go_wp2_with fail
            have hwn := hwn.out
            first | rw [← e1.out, ← e2.out] | rw [← e1.out, ← e3.out]
            subst hwn
            exact ⟨⟨k + 1, true, min a n.vl, max b n.vl, rfl, by go_num, by omega, H2, D2, (n2 s (by have := Q.out; omega)).trans S, (p2 w kr (by have := Q.out; omega)).drew⟩, by simp [intOf]; omega⟩
      · have H2 := H'.out
        rw [if_neg h1k] at H2
        replace H2 : Hid _ := H2
        have hkd : ((n.kd : Int) != 1) = true := by rw [bne_iff_ne]; omega
        go_wp2_with fail
        exact ⟨⟨k + 1, m, a, b, rfl, by go_num, by omega, H2, D, S, kr⟩, by simp [intOf]; omega⟩
    · have hkc : ¬ (k : Int) < (L.length : Int) := by omega
      have hR : R = (a, b) := by have h := H.out; rw [show L.length - k = 0 by omega, spF] at h; exact h
      subst hR
      obtain ⟨wn, hwn, D2, n2, z2, p2⟩ := put2 S (.int .i64 a) (.int .i64 b)
      go_wp2_with fail
      refine bodyPost_ret (results_cell_row rfl _ _ s 37 _ (0, 0) _ rfl D2 Tryd.underlying37 rfl (by kernel_rfl)) rfl ⟨rfl, p2 w kr (by have := Q.out; omega)⟩
end Go.Proofs.YtodegcobkngmlaaDoor
