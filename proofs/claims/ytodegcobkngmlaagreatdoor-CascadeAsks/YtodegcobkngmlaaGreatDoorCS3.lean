import Derived.Test.YtodegcobkngmlaaGreatDoorProg
import Derived.Test.YtodegcobkngmlaaGreatDoorA2
import Derived.WalkKit
import Derived.WalkSpells
import Derived.WalkLawsBesides
import Derived.Deep.Draws
import Derived.Deep.QuietTactic
import Derived.BigQuiet
import Derived.Laws.Externs
import Derived.Laws.CopyOwn
import Derived.Shelf.Abstract
import Derived.Deep.RegionLaw
import Derived.BigRegion
import Derived.Deep.RegionHeld3
import Derived.RangeFuncBox
import Derived.RangeFuncLeaves
import Derived.RangeFuncCalls
import Derived.RangeFuncRecord
import Derived.Below
import Derived.OwnWalkIn
import Derived.TacticsInMore
import Derived.LoopNIn
import Derived.LoopIn
import Derived.Sort.LoopGhostIn
import Derived.Deep.RegionWith
import Derived.Stop.RegionWithIn
import Derived.Laws.MathBits
import Derived.Maps.OwnSet
import Derived.StringKeys
import Derived.RegionTactic
import Derived.Orders
import Derived.OrdersIn
import Derived.RegionIn
import Ieee.Arith
import Derived.Laws.StructEq
import Derived.Lib.BufferWrite
import Derived.Lib.UnsafeStr
import Derived.Test.YtodegcobkngmlaaGreatDoorG4
import Derived.Test.YtodegcobkngmlaaGreatDoorD3
import Derived.Test.YtodegcobkngmlaaGreatDoorYX4
set_option linter.unusedVariables false
set_option linter.unusedSimpArgs false
namespace Go.Proofs.YtodegcobkngmlaaGreatDoor
/-- From the least to the greatest value of the leaves. -/
def spF (L : List Nd) : Nat → Nat → Bool → Int → Int → Int × Int
  | 0, _, _, a, b => (a, b)
  | f + 1, k, m, a, b => if (L.getD k nd0).kd = 1 then (if m = true then spF L f (k + 1) true (min a (L.getD k nd0).vl) (max b (L.getD k nd0).vl) else spF L f (k + 1) true (L.getD k nd0).vl (L.getD k nd0).vl) else spF L f (k + 1) m a b
def sp (L : List Nd) : Int × Int := spF L L.length 0 false 0 0
theorem spF_wide {L : List Nd} : ∀ (f k : Nat) (a b : Int), a ≤ b → (spF L f k true a b).1 ≤ a ∧ b ≤ (spF L f k true a b).2
  | 0, k, a, b, _ => ⟨Int.le_refl _, Int.le_refl _⟩
  | f + 1, k, a, b, h => by
    rw [spF]
    split
    · rw [if_pos rfl]
      have := spF_wide (L := L) f (k + 1) (min a (L.getD k nd0).vl) (max b (L.getD k nd0).vl) (by omega)
      omega
    · exact spF_wide f (k + 1) a b h
theorem spF_leaf {L : List Nd} : ∀ (f k : Nat) (m : Bool) (a b : Int), a ≤ b → ∀ i, k ≤ i → i < k + f → (L.getD i nd0).kd = 1 → (spF L f k m a b).1 ≤ (L.getD i nd0).vl ∧ (L.getD i nd0).vl ≤ (spF L f k m a b).2
  | 0, k, m, a, b, _, i, h1, h2, _ => by omega
  | f + 1, k, m, a, b, h, i, h1, h2, h3 => by
    rw [spF]
    by_cases e : i = k
    · subst e
      rw [if_pos h3]
      split
      · have := spF_wide (L := L) f (i + 1) (min a (L.getD i nd0).vl) (max b (L.getD i nd0).vl) (by omega)
        omega
      · exact spF_wide (L := L) f (i + 1) _ _ (Int.le_refl _)
    · split
      · split
        · exact spF_leaf f (k + 1) true _ _ (by omega) i (by omega) (by omega) h3
        · exact spF_leaf f (k + 1) true _ _ (Int.le_refl _) i (by omega) (by omega) h3
      · exact spF_leaf f (k + 1) m a b h i (by omega) (by omega) h3
theorem sp_leaf {L : List Nd} {i : Nat} (hi : i < L.length) (h : (L.getD i nd0).kd = 1) : (sp L).1 ≤ (L.getD i nd0).vl ∧ (L.getD i nd0).vl ≤ (sp L).2 := spF_leaf _ _ _ _ _ (Int.le_refl _) i (by omega) (by omega) h
theorem spF_abs {L : List Nd} {B : Nat} : ∀ (f k : Nat) (m : Bool) (a b : Int), a.natAbs ≤ B → b.natAbs ≤ B → (∀ i, k ≤ i → i < k + f → (L.getD i nd0).kd = 1 → (L.getD i nd0).vl.natAbs ≤ B) → (spF L f k m a b).1.natAbs ≤ B ∧ (spF L f k m a b).2.natAbs ≤ B
  | 0, k, m, a, b, ha, hb, _ => ⟨ha, hb⟩
  | f + 1, k, m, a, b, ha, hb, h => by
    rw [spF]
    split
    · rename_i hk
      have := h k (by omega) (by omega) hk
      split
      · exact spF_abs f (k + 1) true _ _ (by omega) (by omega) fun i h1 h2 => h i (by omega) (by omega)
      · exact spF_abs f (k + 1) true _ _ this this fun i h1 h2 => h i (by omega) (by omega)
    · exact spF_abs f (k + 1) m a b ha hb fun i h1 h2 => h i (by omega) (by omega)
theorem sp_abs (L : List Nd) : (sp L).1.natAbs ≤ lg L ∧ (sp L).2.natAbs ≤ lg L := spF_abs _ _ _ _ _ (by simp) (by simp) fun i _ h2 h3 => lg_ge (by omega) h3
theorem spF_le {L : List Nd} : ∀ (f k : Nat) (m : Bool) (a b : Int), a ≤ b → (spF L f k m a b).1 ≤ (spF L f k m a b).2
  | 0, k, m, a, b, h => h
  | f + 1, k, m, a, b, h => by
    rw [spF]
    split
    · split
      · exact spF_le f (k + 1) true _ _ (by omega)
      · exact spF_le f (k + 1) true _ _ (Int.le_refl _)
    · exact spF_le f (k + 1) m a b h
theorem sp_le (L : List Nd) : (sp L).1 ≤ (sp L).2 := spF_le _ _ _ _ _ (Int.le_refl _)
/-- What the trees add to an output's Low and High, the first k by what they say (v). -/
def boS (lo : Bool) (v : List Nd → Int) (o : Int) : Nat → List (Int × List Nd) → Int
  | _, [] => 0
  | 0, t :: l => (if t.1 = o then (if lo = true then (sp t.2).1 else (sp t.2).2) else 0) + boS lo v o 0 l
  | k + 1, t :: l => (if t.1 = o then v t.2 else 0) + boS lo v o k l
theorem boS_step (lo : Bool) (v : List Nd → Int) (o : Int) : ∀ (ts : List (Int × List Nd)) (k : Nat), k < ts.length → boS lo v o (k + 1) ts = boS lo v o k ts + (if (ts.getD k (0, [])).1 = o then v (ts.getD k (0, [])).2 - (if lo = true then (sp (ts.getD k (0, [])).2).1 else (sp (ts.getD k (0, [])).2).2) else 0)
  | [], k, h => by simp at h
  | t :: ts, 0, h => by
    simp only [boS, List.getD_cons_zero]
    split <;> omega
  | t :: ts, k + 1, h => by
    rw [boS, boS, boS_step lo v o ts k (by simpa using h), List.getD_cons_succ]
    omega
theorem boS_abs (lo : Bool) (v : List Nd → Int) (o : Int) : ∀ (ts : List (Int × List Nd)) (k : Nat), (∀ t ∈ ts, (v t.2).natAbs ≤ lg t.2) → (boS lo v o k ts).natAbs ≤ rsum o ts
  | [], k, _ => by cases k <;> simp [boS, rsum]
  | t :: ts, 0, h => by
    have := boS_abs lo v o ts 0 fun x hx => h x (List.mem_cons_of_mem _ hx)
    have := sp_abs t.2
    rw [boS, rsum, wo1]
    split
    · split <;> omega
    · omega
  | t :: ts, k + 1, h => by
    have := boS_abs lo v o ts k fun x hx => h x (List.mem_cons_of_mem _ hx)
    have := h t (by simp)
    rw [boS, rsum, wo1]
    split <;> omega
theorem boS_all (lo : Bool) (v : List Nd → Int) (o : Int) : ∀ (ts : List (Int × List Nd)) (k : Nat), ts.length ≤ k → boS lo v o k ts = boS true v o ts.length ts
  | [], k, _ => by cases k <;> rfl
  | t :: ts, 0, h => by simp at h
  | t :: ts, k + 1, h => by
    rw [boS, List.length_cons, boS, boS_all lo v o ts k (by simpa using h)]
theorem boS_rise (v : List Nd → Int) (o : Int) (ts : List (Int × List Nd)) (hv : ∀ t ∈ ts, (sp t.2).1 ≤ v t.2 ∧ v t.2 ≤ (sp t.2).2) (k : Nat) (hk : k < ts.length) : boS true v o k ts ≤ boS true v o (k + 1) ts ∧ boS false v o (k + 1) ts ≤ boS false v o k ts := by
  rw [boS_step true v o ts k hk, boS_step false v o ts k hk]
  have := hv (ts.getD k (0, [])) (by simp [List.getD, hk])
  simp only [if_true, Bool.false_eq_true, if_false]
  split <;> omega
theorem boS_le (v : List Nd → Int) (o : Int) : ∀ (ts : List (Int × List Nd)) (k : Nat), boS true v o k ts ≤ boS false v o k ts
  | [], k => by cases k <;> exact Int.le_refl _
  | t :: ts, 0 => by
    have := boS_le v o ts 0
    have := sp_le t.2
    rw [boS, boS]
    simp only [if_true, Bool.false_eq_true, if_false]
    split <;> omega
  | t :: ts, k + 1 => by
    have := boS_le v o ts k
    rw [boS, boS]
    omega
end Go.Proofs.YtodegcobkngmlaaGreatDoor
set_option linter.unusedVariables false
set_option linter.unusedSimpArgs false
namespace Go.Proofs.YtodegcobkngmlaaGreatDoor
open Go.RowKit Go.Shelf
attribute [local go_sem] run_store_float
theorem cell_same {w w' : World} {b o : Nat} (h : w'.heap[b]? = w.heap[b]?) : w'.cell? ⟨b, o, none⟩ = w.cell? ⟨b, o, none⟩ := World.cell?_of_block (w := w) h
theorem cell_set_ne {w : World} {g i b o : Nat} {v : Value} (h : b ≠ g) : (w.setCell ⟨g, i, none⟩ v).cell? ⟨b, o, none⟩ = w.cell? ⟨b, o, none⟩ := World.cell?_of_block (w := w) (neq_set w g i v b h)
/-- Two cells written over. -/
theorem put2 {w : World} {g T : Nat} {x0 x1 : Value} (h : w.heap[g]? = some (.cells #[x0, x1] T (0, 0))) (v0 v1 : Value) :
    ∃ w', ((w.setCell ⟨g, 0, none⟩ v0).setCell ⟨g, 1, none⟩ v1) = w' ∧ w'.heap[g]? = some (.cells #[v0, v1] T (0, 0)) ∧ (∀ k, k ≠ g → w'.heap[k]? = w.heap[k]?) ∧ w'.heap.size = w.heap.size ∧ (∀ w0, Keep w0 w → w0.heap.size ≤ g → Keep w0 w') := by
  have a0 := heap_setCell_same w g 0 _ T v0 h
  have a1 := heap_setCell_same _ g 1 _ T v1 a0
  exact ⟨_, rfl, by simpa using a1, fun k hk => by rw [neq_set _ _ _ _ k hk, neq_set _ _ _ _ k hk], by simp only [World.size_setCell], fun w0 k hg => (k.setCell (p := ⟨g, 0, none⟩) hg v0).setCell (p := ⟨g, 1, none⟩) hg v1⟩
set_option maxRecDepth 100000 in
set_option maxHeartbeats 1000000 in
theorem spanOf_any (na : Option Addr) (nc : Nat) (L : List Nd) (w : World) (hL : L.length ≤ 1759218604441) (hr : RdN w na L) :
    Calls Tryz.prog 22 #[.slice na L.length nc] w fun e w' => e = .returned (.agg #[.int .i64 (sp L).1, .int .i64 (sp L).2]) ∧ Keep w w' := by
  obtain ⟨w1, hw1, k1, t1, s1⟩ := boxed w #[.int .i64 0, .int .i64 0] 42
  obtain ⟨w2, hw2, k2, t2, s2⟩ := boxed w1 #[.int .i64 0, .int .i64 0] 42
  obtain ⟨s, hs⟩ : ∃ s, w.heap.size = s := ⟨_, rfl⟩
  obtain ⟨d, hd⟩ : ∃ d, w1.heap.size = d := ⟨_, rfl⟩
  rw [hs] at t1
  rw [hd] at t2
  have Q : Hid (w.heap.size = s ∧ d = s + 1) := ⟨hs, by omega⟩
  have T1 := k2.at t1
  have k02 := k1.trans k2
  have HS : Hid (sp L = spF L (L.length - 0) 0 false 0 0) := rfl
  generalize sp L = R at HS ⊢
  replace s1 : Hid _ := s1
  replace s2 : Hid _ := s2
  go_enter Tryz.func22, Tryz.ntmps22
  go_wp2_with (first | rw [hw1] | rw [hw2])
  go_loopw [4, 9] (fun mv iv wr => ∃ (k : Nat) (m : Bool) (a b : Int), mv = .bool m ∧ iv = .int .i64 k ∧ k ≤ L.length ∧ Hid (R = spF L (L.length - k) k m a b) ∧ wr.heap[d]? = some (.cells #[.int .i64 a, .int .i64 b] 42 (0, 0)) ∧ wr.heap[s]? = some (.cells #[.int .i64 0, .int .i64 0] 42 (0, 0)) ∧ Keep w wr) (fun _ iv _ => L.length - (intOf iv).toNat)
  case atStart => exact ⟨0, false, 0, 0, rfl, rfl, by omega, HS, t2, T1, k02⟩
  case round =>
    obtain ⟨k, m, a, b, rfl, rfl, hk, H, D, S, kr⟩ := hrel
    obtain ⟨a0, a1, f0, f1⟩ := cells2 D
    obtain ⟨b0, b1, g0, g1⟩ := cells2 S
    by_cases hkl : k < L.length
    · have hkc : (k : Int) < (L.length : Int) := by omega
      obtain ⟨bn, on, ca, cap, rfl, hn⟩ := (hr.keep kr) k hkl
      have h0 := hn.c0
      have h1 := hn.c1
      have H' : Hid (R = if (L.getD k nd0).kd = 1 then (if m = true then spF L (L.length - (k + 1)) (k + 1) true (min a (L.getD k nd0).vl) (max b (L.getD k nd0).vl) else spF L (L.length - (k + 1)) (k + 1) true (L.getD k nd0).vl (L.getD k nd0).vl) else spF L (L.length - (k + 1)) (k + 1) m a b) := by
        have h := H.out
        rw [show L.length - k = (L.length - (k + 1)) + 1 by omega, spF] at h
        exact h
      generalize L.getD k nd0 = n at *
      by_cases h1k : n.kd = 1
      · have H2 := H'.out
        rw [if_pos h1k] at H2
        have hkd : ((n.kd : Int) != 1) = false := by rw [h1k]; rfl
        cases m
        · rw [if_neg (by simp)] at H2
          replace H2 : Hid _ := H2
          obtain ⟨wn, hwn, D2, n2, z2, p2⟩ := put2 D (.int .i64 n.vl) (.int .i64 n.vl)
          replace hwn : Hid _ := hwn
          go_wp2_with fail
          go_region
          all_goals
            go_wp2_with fail
            have hwn := hwn.out
            subst hwn
            exact ⟨⟨k + 1, true, n.vl, n.vl, rfl, by go_num, by omega, H2, D2, (n2 s (by have := Q.out; omega)).trans S, (p2 w kr (by have := Q.out; omega)).drew⟩, by simp [intOf]; omega⟩
        · rw [if_pos rfl] at H2
          replace H2 : Hid _ := H2
          have e1 : min a n.vl = if n.vl < a then n.vl else a := by split <;> omega
          have e2 : max b n.vl = if b < n.vl then n.vl else b := by split <;> omega
          have e3 : max b n.vl = if n.vl > b then n.vl else b := by split <;> omega
          obtain ⟨wn, hwn, D2, n2, z2, p2⟩ := put2 D (.int .i64 (min a n.vl)) (.int .i64 (max b n.vl))
          replace hwn : Hid _ := hwn
          replace e1 : Hid _ := e1
          replace e2 : Hid _ := e2
          replace e3 : Hid _ := e3
          go_wp2_with fail
          go_region
          all_goals
            go_wp2_with fail
            have hwn := hwn.out
            first | rw [← e1.out, ← e2.out] | rw [← e1.out, ← e3.out]
            subst hwn
            exact ⟨⟨k + 1, true, min a n.vl, max b n.vl, rfl, by go_num, by omega, H2, D2, (n2 s (by have := Q.out; omega)).trans S, (p2 w kr (by have := Q.out; omega)).drew⟩, by simp [intOf]; omega⟩
      · have H2 := H'.out
        rw [if_neg h1k] at H2
        replace H2 : Hid _ := H2
        have hkd : ((n.kd : Int) != 1) = true := by rw [bne_iff_ne]; omega
        go_wp2_with fail
        exact ⟨⟨k + 1, m, a, b, rfl, by go_num, by omega, H2, D, S, kr⟩, by simp [intOf]; omega⟩
    · have hkc : ¬ (k : Int) < (L.length : Int) := by omega
      have hR : R = (a, b) := by have h := H.out; rw [show L.length - k = 0 by omega, spF] at h; exact h
      subst hR
      obtain ⟨wn, hwn, D2, n2, z2, p2⟩ := put2 S (.int .i64 a) (.int .i64 b)
      go_wp2_with fail
      refine bodyPost_ret (results_cell_row rfl _ _ s 42 _ (0, 0) _ rfl D2 Tryz.underlying42 rfl (by kernel_rfl)) rfl ⟨rfl, p2 w kr (by have := Q.out; omega)⟩
end Go.Proofs.YtodegcobkngmlaaGreatDoor
set_option linter.unusedVariables false
set_option linter.unusedSimpArgs false
namespace Go.Proofs.YtodegcobkngmlaaGreatDoor
open Go.RowKit Go.Shelf
theorem putA {w : World} {g T : Nat} {x0 x1 : Value} (h : w.heap[g]? = some (.cells #[x0, x1] T (0, 0))) (v0 : Value) :
    ∃ w', w.setCell ⟨g, 0, none⟩ v0 = w' ∧ w'.heap[g]? = some (.cells #[v0, x1] T (0, 0)) ∧ (∀ k, k ≠ g → w'.heap[k]? = w.heap[k]?) ∧ w'.heap.size = w.heap.size ∧ (∀ w0, Keep w0 w → w0.heap.size ≤ g → Keep w0 w') := by
  have a0 := heap_setCell_same w g 0 _ T v0 h
  exact ⟨_, rfl, by simpa using a0, fun k hk => neq_set _ _ _ _ k hk, by simp only [World.size_setCell], fun w0 k hg => k.setCell (p := ⟨g, 0, none⟩) hg v0⟩
theorem putB {w : World} {g T : Nat} {x0 x1 : Value} (h : w.heap[g]? = some (.cells #[x0, x1] T (0, 0))) (v1 : Value) :
    ∃ w', w.setCell ⟨g, 1, none⟩ v1 = w' ∧ w'.heap[g]? = some (.cells #[x0, v1] T (0, 0)) ∧ (∀ k, k ≠ g → w'.heap[k]? = w.heap[k]?) ∧ w'.heap.size = w.heap.size ∧ (∀ w0, Keep w0 w → w0.heap.size ≤ g → Keep w0 w') := by
  have a0 := heap_setCell_same w g 1 _ T v1 h
  exact ⟨_, rfl, by simpa using a0, fun k hk => neq_set _ _ _ _ k hk, by simp only [World.size_setCell], fun w0 k hg => k.setCell (p := ⟨g, 1, none⟩) hg v1⟩
set_option maxRecDepth 100000 in
set_option maxHeartbeats 2000000 in
/-- The reference's span of a tree. -/
theorem rSpan_any (out : Int) (na : Option Addr) (nc : Nat) (L : List Nd) (w : World) (hL : L.length ≤ 1759218604441) (hr : RdN w na L) :
    Calls Tryz.prog 25 #[.agg #[.int .i64 out, .slice na L.length nc]] w fun e w' => e = .returned (.agg #[.int .i64 (sp L).1, .int .i64 (sp L).2]) ∧ Keep w w' := by
  obtain ⟨w1, hw1, k1, t1, s1⟩ := boxed w #[.int .i64 out, .slice na L.length nc] 51
  obtain ⟨w2, hw2, k2, t2, s2⟩ := boxed w1 #[.int .i64 0, .int .i64 0] 42
  obtain ⟨w3, hw3, k3, t3, s3⟩ := boxed w2 #[.int .i64 0, .int .i64 0] 42
  obtain ⟨w4, hw4, t4, n4, z4, p4⟩ := put2 t3 (.int .i64 0) (.int .i64 0)
  obtain ⟨q0, q1, q2, q3⟩ := cells2 t3
  obtain ⟨s, hs⟩ : ∃ s, w.heap.size = s := ⟨_, rfl⟩
  obtain ⟨d, hd⟩ : ∃ d, w1.heap.size = d := ⟨_, rfl⟩
  obtain ⟨g, hg⟩ : ∃ g, w2.heap.size = g := ⟨_, rfl⟩
  have k23 := k2.trans k3
  have T1 := (n4 _ (by omega)).trans (k23.at t1)
  have T2 := (n4 _ (by omega)).trans (k3.at t2)
  have k04 := p4 w (k1.trans k23) (by omega)
  rw [hs] at T1
  rw [hd] at T2
  rw [hg] at t4 hw4 q0 q1 q2 q3
  have Q : Hid (w.heap.size = s ∧ d = s + 1 ∧ g = s + 2) := ⟨hs, by omega, by omega⟩
  have HS : Hid (sp L = spF L (L.length - 0) 0 false 0 0) := rfl
  generalize sp L = R at HS ⊢
  replace s1 : Hid _ := s1
  replace s2 : Hid _ := s2
  replace s3 : Hid _ := s3
  replace z4 : Hid _ := z4
  go_enter Tryz.func25, Tryz.ntmps25
  go_wp2_with (first | rw [hw1] | rw [hw2] | rw [hw3] | rw [hw4])
  clear hw1 hw2 hw3 hw4 q0 q1 q2 q3
  go_loopw [4, 5] (fun mv iv wr => ∃ (k : Nat) (m : Bool) (a b : Int), mv = .bool (!m) ∧ iv = .int .i64 k ∧ k ≤ L.length ∧ Hid (R = spF L (L.length - k) k m a b) ∧ wr.heap[g]? = some (.cells #[.int .i64 a, .int .i64 b] 42 (0, 0)) ∧ wr.heap[d]? = some (.cells #[.int .i64 0, .int .i64 0] 42 (0, 0)) ∧ wr.heap[s]? = some (.cells #[.int .i64 out, .slice na L.length nc] 51 (0, 0)) ∧ Keep w wr) (fun _ iv _ => L.length - (intOf iv).toNat)
  case atStart => exact ⟨0, false, 0, 0, rfl, rfl, by omega, HS, t4, T2, T1, k04⟩
  case round =>
    obtain ⟨k, m, a, b, rfl, rfl, hk, H, D, S, E, kr⟩ := hrel
    obtain ⟨a0, a1, f0, f1⟩ := cells2 D
    obtain ⟨-, e1, -, -⟩ := cells2 E
    by_cases hkl : k < L.length
    · have hkc : (k : Int) < (L.length : Int) := by omega
      obtain ⟨bn, on, ca, cap, rfl, hn⟩ := (hr.keep kr) k hkl
      have h0 := hn.c0
      have h1 := hn.c1
      have H' : Hid (R = if (L.getD k nd0).kd = 1 then (if m = true then spF L (L.length - (k + 1)) (k + 1) true (min a (L.getD k nd0).vl) (max b (L.getD k nd0).vl) else spF L (L.length - (k + 1)) (k + 1) true (L.getD k nd0).vl (L.getD k nd0).vl) else spF L (L.length - (k + 1)) (k + 1) m a b) := by
        have h := H.out
        rw [show L.length - k = (L.length - (k + 1)) + 1 by omega, spF] at h
        exact h
      have hne : s ≠ g ∧ d ≠ g := by have := Q.out; omega
      generalize L.getD k nd0 = n at *
      by_cases h1k : n.kd = 1
      · have H2 := H'.out
        rw [if_pos h1k] at H2
        have hkd : ((n.kd : Int) != 1) = false := by rw [h1k]; rfl
        clear hn h1k
        cases m
        · rw [if_neg (by simp)] at H2
          replace H2 : Hid _ := H2
          obtain ⟨wn, hwn, D1, n1, z1, p1⟩ := putA D (.int .i64 n.vl)
          obtain ⟨b0, b1, g0, g1⟩ := cells2 D1
          obtain ⟨wm, hwm, D2, n2, z2, p2⟩ := putB D1 (.int .i64 n.vl)
          have E1 := (n1 s hne.1).trans E
          have y1 := (cells2 E1).2.1
          have HE : Hid (wm.heap[d]? = some (.cells #[.int .i64 0, .int .i64 0] 42 (0, 0)) ∧ wm.heap[s]? = some (.cells #[.int .i64 out, .slice (some ⟨bn, on, none⟩) L.length nc] 51 (0, 0)) ∧ Keep w wm) := ⟨(n2 d hne.2).trans ((n1 d hne.2).trans S), (n2 s hne.1).trans E1, p2 w (p1 w kr (by have := Q.out; omega)) (by have := Q.out; omega)⟩
          simp only [Bool.not_false]
          go_wp2_with fail
          exact ⟨⟨k + 1, true, n.vl, n.vl, rfl, by go_num, by omega, H2, D2, HE.out⟩, by simp [intOf]; omega⟩
        · rw [if_pos rfl] at H2
          simp only [Bool.not_true]
          obtain ⟨A, hA⟩ : ∃ A, min a n.vl = A := ⟨_, rfl⟩
          obtain ⟨B, hB⟩ : ∃ B, max b n.vl = B := ⟨_, rfl⟩
          rw [hA, hB] at H2
          replace H2 : Hid _ := H2
          by_cases c1 : n.vl < a
          · have c1' : decide (n.vl < a) = true := decide_eq_true c1
            have hA2 : A = n.vl := by omega
            obtain ⟨wn, hwn, D1, n1, z1, p1⟩ := putA D (.int .i64 n.vl)
            obtain ⟨b0, b1, g0, g1⟩ := cells2 D1
            have E1 := (n1 s hne.1).trans E
            have y1 := (cells2 E1).2.1
            by_cases c2 : n.vl > b
            · have c2' : decide (n.vl > b) = true := decide_eq_true c2
              have hB2 : B = n.vl := by omega
              obtain ⟨wm, hwm, D2, n2, z2, p2⟩ := putB D1 (.int .i64 n.vl)
              have HE : Hid (wm.heap[g]? = some (.cells #[.int .i64 A, .int .i64 B] 42 (0, 0)) ∧ wm.heap[d]? = some (.cells #[.int .i64 0, .int .i64 0] 42 (0, 0)) ∧ wm.heap[s]? = some (.cells #[.int .i64 out, .slice (some ⟨bn, on, none⟩) L.length nc] 51 (0, 0)) ∧ Keep w wm) := ⟨by rw [hA2, hB2]; exact D2, (n2 d hne.2).trans ((n1 d hne.2).trans S), (n2 s hne.1).trans E1, p2 w (p1 w kr (by have := Q.out; omega)) (by have := Q.out; omega)⟩
              clear hA hB hA2 hB2 c1 c2
              go_wp2_with fail
              exact ⟨⟨k + 1, true, A, B, rfl, by go_num, by omega, H2, HE.out⟩, by simp [intOf]; omega⟩
            · have c2' : decide (n.vl > b) = false := decide_eq_false c2
              have hB2 : B = b := by omega
              have HE : Hid (wn.heap[g]? = some (.cells #[.int .i64 A, .int .i64 B] 42 (0, 0)) ∧ wn.heap[d]? = some (.cells #[.int .i64 0, .int .i64 0] 42 (0, 0)) ∧ wn.heap[s]? = some (.cells #[.int .i64 out, .slice (some ⟨bn, on, none⟩) L.length nc] 51 (0, 0)) ∧ Keep w wn) := ⟨by rw [hA2, hB2]; exact D1, (n1 d hne.2).trans S, E1, p1 w kr (by have := Q.out; omega)⟩
              clear hA hB hA2 hB2 c1 c2
              go_wp2_with fail
              exact ⟨⟨k + 1, true, A, B, rfl, by go_num, by omega, H2, HE.out⟩, by simp [intOf]; omega⟩
          · have c1' : decide (n.vl < a) = false := decide_eq_false c1
            have hA2 : A = a := by omega
            by_cases c2 : n.vl > b
            · have c2' : decide (n.vl > b) = true := decide_eq_true c2
              have hB2 : B = n.vl := by omega
              obtain ⟨wm, hwm, D2, n2, z2, p2⟩ := putB D (.int .i64 n.vl)
              have HE : Hid (wm.heap[g]? = some (.cells #[.int .i64 A, .int .i64 B] 42 (0, 0)) ∧ wm.heap[d]? = some (.cells #[.int .i64 0, .int .i64 0] 42 (0, 0)) ∧ wm.heap[s]? = some (.cells #[.int .i64 out, .slice (some ⟨bn, on, none⟩) L.length nc] 51 (0, 0)) ∧ Keep w wm) := ⟨by rw [hA2, hB2]; exact D2, (n2 d hne.2).trans S, (n2 s hne.1).trans E, p2 w kr (by have := Q.out; omega)⟩
              clear hA hB hA2 hB2 c1 c2
              go_wp2_with fail
              exact ⟨⟨k + 1, true, A, B, rfl, by go_num, by omega, H2, HE.out⟩, by simp [intOf]; omega⟩
            · have c2' : decide (n.vl > b) = false := decide_eq_false c2
              have hB2 : B = b := by omega
              have HE : Hid (wr.heap[g]? = some (.cells #[.int .i64 A, .int .i64 B] 42 (0, 0)) ∧ wr.heap[d]? = some (.cells #[.int .i64 0, .int .i64 0] 42 (0, 0)) ∧ wr.heap[s]? = some (.cells #[.int .i64 out, .slice (some ⟨bn, on, none⟩) L.length nc] 51 (0, 0)) ∧ Keep w wr) := ⟨by rw [hA2, hB2]; exact D, S, E, kr⟩
              clear hA hB hA2 hB2 c1 c2
              go_wp2_with fail
              exact ⟨⟨k + 1, true, A, B, rfl, by go_num, by omega, H2, HE.out⟩, by simp [intOf]; omega⟩
      · have H2 := H'.out
        rw [if_neg h1k] at H2
        replace H2 : Hid _ := H2
        have hkd : ((n.kd : Int) != 1) = true := by rw [bne_iff_ne]; omega
        clear hn h1k
        go_wp2_with fail
        exact ⟨⟨k + 1, m, a, b, rfl, by go_num, by omega, H2, D, S, E, kr⟩, by simp [intOf]; omega⟩
    · have hkc : ¬ (k : Int) < (L.length : Int) := by omega
      have hR : R = (a, b) := by have h := H.out; rw [show L.length - k = 0 by omega, spF] at h; exact h
      subst hR
      obtain ⟨wn, hwn, D2, n2, z2, p2⟩ := put2 S (.int .i64 a) (.int .i64 b)
      obtain ⟨b0, b1, g0, g1⟩ := cells2 S
      go_wp2_with fail
      refine bodyPost_ret (results_cell_row rfl _ _ d 42 _ (0, 0) _ rfl D2 Tryz.underlying42 rfl (by kernel_rfl)) rfl ⟨rfl, p2 w kr (by have := Q.out; omega)⟩
end Go.Proofs.YtodegcobkngmlaaGreatDoor
set_option linter.unusedVariables false
set_option linter.unusedSimpArgs false
namespace Go.Proofs.YtodegcobkngmlaaGreatDoor
open Go.RowKit Go.Shelf
set_option maxRecDepth 100000 in
set_option maxHeartbeats 1000000 in
theorem valueOf_any (na ax : Option Addr) (nc cx : Nat) (L : List Nd) (xs : List Nat) (w : World) (hL : L.length ≤ 1759218604441) (hxl : xs.length ≤ 17592186044416) (hr : RdN w na L) (hx : RdF w ax xs) (hE : shE L = 0) (hft : ∀ i, i < L.length → ((L.getD i nd0).kd = 2 ∨ (L.getD i nd0).kd = 3) → 0 ≤ (L.getD i nd0).ft ∧ (L.getD i nd0).ft < (xs.length : Int)) :
    Calls Tryz.prog 23 #[.slice na L.length nc, .slice ax xs.length cx] w fun e w' => e = .returned (.int .i64 (L.getD (endN L xs) nd0).vl) ∧ Keep w w' := by
  obtain ⟨l0, hw1, hw2, hw3, hw4⟩ := way_last (xs := xs) hE
  have hR := shE_rgt hE
  have hG := fun (n : Nd) (ca : Option Addr) (cap x : Nat) (wx : World) (h1 : RdI wx ca n.cs) (h2 : n.cs.length ≤ 17592186044416) (h3 : n.cs.length ≤ cap) => Goes_any n ca cap x wx h1 h2 h3
  have hz : 0 < L.length := hR.1
  have hend : Hid (∀ f i pre, way (shp L) (chs L xs) L.length = pre ++ path (shp L) (chs L xs) f i → i < L.length → ((L.getD i nd0).kd = 1 ∧ endN L xs = i) ∨ (((L.getD i nd0).kd = 2 ∨ (L.getD i nd0).kd = 3) ∧ ∃ f', f = f' + 1 ∧ nxt (L.getD i nd0) xs = ((if chs L xs i = true then (shp L).A i else (shp L).B i : Nat) : Int) ∧ (if chs L xs i = true then (shp L).A i else (shp L).B i) < L.length ∧ way (shp L) (chs L xs) L.length = (pre ++ [i]) ++ path (shp L) (chs L xs) f' (if chs L xs i = true then (shp L).A i else (shp L).B i))) := by
    intro f i pre h hi
    by_cases hK : (shp L).K i = true
    · right
      have hk := of_decide_eq_true (show decide ((L.getD i nd0).kd = 2 ∨ (L.getD i nd0).kd = 3) = true from hK)
      refine ⟨hk, ?_⟩
      cases f with
      | zero =>
        rw [path, hw1] at h
        have := List.append_inj_right' h rfl
        simp at this
        rw [this, hK] at hw2
        cases hw2
      | succ f =>
        rw [path_inner hK] at h
        obtain ⟨⟨-, l6, -⟩, ⟨-, l7, -⟩⟩ := hR.kids hi hK
        exact ⟨f, rfl, nxt_chs hR xs hi hK, by split <;> assumption, by rw [h]; simp⟩
    · left
      have hK' : (shp L).K i = false := by simpa using hK
      rw [path_leaf hK', hw1] at h
      have := List.append_inj_right' h rfl
      simp at this
      refine ⟨?_, this⟩
      have hb := hR.2 i hi
      have hn : ¬ ((L.getD i nd0).kd = 2 ∨ (L.getD i nd0).kd = 3) := of_decide_eq_false (show decide ((L.getD i nd0).kd = 2 ∨ (L.getD i nd0).kd = 3) = false from hK')
      unfold rightB at hb
      by_cases h1 : (L.getD i nd0).kd = 1
      · exact h1
      · rw [if_neg h1, if_neg (fun q => hn (.inl q)), if_neg (fun q => hn (.inr q))] at hb
        cases hb
  have HW : Hid (way (shp L) (chs L xs) L.length = [] ++ path (shp L) (chs L xs) (L.length - 1) 0) := rfl
  replace hft : Hid _ := hft
  clear hw1 hw2 hw3 hw4
  obtain ⟨V, hV⟩ : ∃ V, (L.getD (endN L xs) nd0).vl = V := ⟨_, rfl⟩
  rw [hV]
  replace hV : Hid _ := hV
  go_enter Tryz.func23, Tryz.ntmps23
  go_wp2_with fail
  go_loopg [5] (L.length - 1) (fun gg s5 wr => ∃ (i f : Nat) (pre : List Nat), s5 = .int .i64 i ∧ i < L.length ∧ Hid (way (shp L) (chs L xs) L.length = pre ++ path (shp L) (chs L xs) f i) ∧ Keep w wr ∧ gg = f)
  case atStart => exact ⟨0, _, [], rfl, hz, HW, Keep.refl w, rfl⟩
  case round =>
    obtain ⟨i, f, pre, rfl, hi, H, kr, hgf⟩ := hrel
    replace hgf : Hid _ := hgf
    have hic : (i : Int) < (L.length : Int) := by omega
    obtain ⟨bn, on, ca, cap, rfl, hn⟩ := (hr.keep kr) i hi
    have c0 := hn.c0
    have c1 := hn.c1
    have c2 := hn.c2
    have c3 := hn.c3
    have c4 := hn.c4
    have c5 := hn.c5
    have c6 := hn.c6
    have c7 := hn.c7
    rcases hend.out _ i pre H.out hi with ⟨hk, he⟩ | ⟨hk, f', hf, hnx, hlt, hway⟩
    · have hkd : (((L.getD i nd0).kd : Int) != 1) = false := by rw [hk]; rfl
      have hv : (L.getD i nd0).vl = V := by rw [← hV.out, he]
      rw [hv] at c1
      clear hv
      generalize L.getD i nd0 = n at *
      go_wp2_with fail
      go_ret
      exact ⟨rfl, kr⟩
    · have hkd : (((L.getD i nd0).kd : Int) != 1) = true := by rw [bne_iff_ne]; omega
      have hfi := hft.out i hi hk
      have hGi := fun wx (q : Keep wr wx) x => hG (L.getD i nd0) ca cap x wx (hn.rd.keep q) hn.sz hn.cp
      obtain ⟨ft, hfe⟩ : ∃ ft : Nat, (L.getD i nd0).ft = (ft : Int) := ⟨_, (Int.toNat_of_nonneg hfi.1).symm⟩
      have hfl : ft < xs.length := by omega
      have hfc : (ft : Int) < (xs.length : Int) := by omega
      obtain ⟨bx, ox, rfl, cx0⟩ := (hx.keep kr) ft hfl
      have hnx2 : nxt (L.getD i nd0) xs = if gsS (L.getD i nd0) (xs.getD ft 0) = 1 then (L.getD i nd0).lf else (L.getD i nd0).rt := by unfold nxt; rw [hfe]; rfl
      have hGv : ∀ wx, Keep wr wx → Calls Tryz.prog 28 #[.agg #[.int .u8 (L.getD i nd0).kd, .int .i64 (ft : Int), .int .i64 (ft : Int), .float .f64 (L.getD i nd0).th, .slice ca (L.getD i nd0).cs.length cap, .int .u8 (L.getD i nd0).ms, .int .i64 (L.getD i nd0).lf, .int .i64 (L.getD i nd0).rt], .float .f64 (xs.getD ft 0)] wx (fun e w' => e = .returned (.int .u8 (gsS (L.getD i nd0) (xs.getD ft 0) : Nat)) ∧ Keep wx w') → True := fun _ _ _ => trivial
      clear hGv
      have hGw : ∀ wx, Keep wr wx → Calls Tryz.prog 28 #[.agg #[.int .u8 (L.getD i nd0).kd, .int .i64 (L.getD i nd0).vl, .int .i64 (ft : Int), .float .f64 (L.getD i nd0).th, .slice ca (L.getD i nd0).cs.length cap, .int .u8 (L.getD i nd0).ms, .int .i64 (L.getD i nd0).lf, .int .i64 (L.getD i nd0).rt], .float .f64 (xs.getD ft 0)] wx (fun e w' => e = .returned (.int .u8 (gsS (L.getD i nd0) (xs.getD ft 0) : Nat)) ∧ Keep wx w') := by
        intro wx q
        have h := hGi wx q (xs.getD ft 0)
        unfold Nd.v at h
        rw [hfe] at h
        exact h
      rw [hfe] at c2
      have Hw : Hid (way (shp L) (chs L xs) L.length = pre ++ [i] ++ path (shp L) (chs L xs) f' (if chs L xs i = true then (shp L).A i else (shp L).B i)) := hway
      have Hl : Hid ((if chs L xs i = true then (shp L).A i else (shp L).B i) < L.length) := hlt
      have Hx : Hid ((if gsS (L.getD i nd0) (xs.getD ft 0) = 1 then (L.getD i nd0).lf else (L.getD i nd0).rt) = ((if chs L xs i = true then (shp L).A i else (shp L).B i : Nat) : Int)) := hnx2.symm.trans hnx
      have Hf : Hid (f = f' + 1) := hf
      clear hway hlt hnx2 hnx hf hGi hfi hft
      generalize (if chs L xs i = true then (shp L).A i else (shp L).B i) = j at *
      generalize hx0 : xs.getD ft 0 = xv at *
      clear hx0
      generalize gsS (L.getD i nd0) xv = gv at *
      generalize L.getD i nd0 = n at *
      go_wp2_with fail
      refine region_keep (Keep.refl wr) (by kernel_rfl) (by kernel_rfl) ?_
      repeat
        with_reducible refine wpQuiet_step ?_
        intro K hK
        go_simp
        first
          | (with_reducible refine hK _ ?_; clear hK K)
          | (apply Exists.intro
             with_reducible refine ⟨fun wx hC => ?_, hK _ ?_⟩
             · first
                 | with_reducible rfl
                 | with_reducible exact (hGw wx hC).mono fun e w'' h => ⟨h.1, hC.trans h.2⟩
                 | (have y0 := hC.cell c0; have y1 := hC.cell c1; have y2 := hC.cell c2; have y3 := hC.cell c3; have y4 := hC.cell c4; have y5 := hC.cell c5; have y6 := hC.cell c6; have y7 := hC.cell c7; have y8 := hC.cell cx0; go_simp; with_reducible rfl)
             clear hK K)
      with_reducible refine wpQuiet_nil ?_
      intro w3 k3
      have d6 := k3.cell c6
      have d7 := k3.cell c7
      go_simp
      by_cases hg : gv = 1
      · have hgc : ((gv : Int) == 1) = true := by rw [hg]; rfl
        have hl := Hx.out
        rw [if_pos hg] at hl
        rw [hl] at d6
        go_wp2_with fail
        go_roundg f'
        case measure => have := Hf.out; have := hgf.out; omega
        case rel => exact ⟨j, f', _, rfl, Hl.out, Hw, kr.trans k3, rfl⟩
      · have hgc : ((gv : Int) == 1) = false := by rw [beq_eq_false_iff_ne]; omega
        have hl := Hx.out
        rw [if_neg hg] at hl
        rw [hl] at d7
        go_wp2_with fail
        go_roundg f'
        case measure => have := Hf.out; have := hgf.out; omega
        case rel => exact ⟨j, f', _, rfl, Hl.out, Hw, kr.trans k3, rfl⟩
end Go.Proofs.YtodegcobkngmlaaGreatDoor
set_option linter.unusedVariables false
set_option linter.unusedSimpArgs false
namespace Go.Proofs.YtodegcobkngmlaaGreatDoor
open Go.RowKit Go.Shelf
set_option maxRecDepth 100000 in
set_option maxHeartbeats 1000000 in
theorem narrow_any (g o : Nat) (cs : Array Value) (a b ta tb v : Int) (w : World) (hg : w.heap[g]? = some (.cells cs 42 (0, 0))) (ha : cs[o]? = some (.int .i64 a)) (hb : cs[o + 1]? = some (.int .i64 b))
    (h1 : -9223372036854775808 ≤ a - ta ∧ a - ta ≤ 9223372036854775807) (h2 : -9223372036854775808 ≤ b - tb ∧ b - tb ≤ 9223372036854775807) (h3 : -9223372036854775808 ≤ a - ta + v ∧ a - ta + v ≤ 9223372036854775807) (h4 : -9223372036854775808 ≤ b - tb + v ∧ b - tb + v ≤ 9223372036854775807) :
    Calls Tryz.prog 21 #[.pointer (some ⟨g, o, none⟩), .agg #[.int .i64 ta, .int .i64 tb], .int .i64 v] w fun e w' => (∃ u, e = .returned u) ∧ w'.heap[g]? = some (.cells ((cs.setIfInBounds o (.int .i64 (a - ta + v))).setIfInBounds (o + 1) (.int .i64 (b - tb + v))) 42 (0, 0)) ∧ (∀ k, k < w.heap.size → k ≠ g → w'.heap[k]? = w.heap[k]?) ∧ w.heap.size ≤ w'.heap.size ∧ (∀ w0, Keep w0 w → w0.heap.size ≤ g → Keep w0 w') := by
  obtain ⟨w1, hw1, k1, t1, s1⟩ := boxed w #[.int .i64 ta, .int .i64 tb] 42
  have hgl : g < w.heap.size := lt_of_at hg
  obtain ⟨d, hd⟩ : ∃ d, w.heap.size = d := ⟨_, rfl⟩
  rw [hd] at t1 hgl
  have G1 := k1.at hg
  obtain ⟨b0, b1, -, -⟩ := cells2 t1
  have c0 : w1.cell? ⟨g, o, none⟩ = some (.int .i64 a) := by rw [cell_of_row _ _ _ _ 42 (0, 0) G1]; exact ha
  have c1 : w1.cell? ⟨g, o + 1, none⟩ = some (.int .i64 b) := by rw [cell_of_row _ _ _ _ 42 (0, 0) G1]; exact hb
  have f0 := frozen_of_row _ _ o _ 42 G1
  have f1 := frozen_of_row _ _ (o + 1) _ 42 G1
  have r1 : IntKind.i64.wrap (a - ta) = a - ta := by rw [IntWalk.i64_left]; exact IntWalk.wrap64_in _ h1
  have r2 : IntKind.i64.wrap (b - tb) = b - tb := by rw [IntWalk.i64_left]; exact IntWalk.wrap64_in _ h2
  have r3 : IntKind.i64.wrap (a - ta + v) = a - ta + v := by rw [IntWalk.i64_left]; exact IntWalk.wrap64_in _ h3
  have r4 : IntKind.i64.wrap (b - tb + v) = b - tb + v := by rw [IntWalk.i64_left]; exact IntWalk.wrap64_in _ h4
  replace s1 : Hid _ := s1
  go_enter Tryz.func21, Tryz.ntmps21
  go_wp2_with (rw [hw1])
  go_region
  all_goals
    go_wp2_with fail
    have e1 := heap_setCell_same w1 g o _ 42 (.int .i64 (a - ta + v)) G1
    have e2 := heap_setCell_same _ g (o + 1) _ 42 (.int .i64 (b - tb + v)) e1
    have ne : ∀ k, k ≠ g → ((w1.setCell ⟨g, o, none⟩ (.int .i64 (a - ta + v))).setCell ⟨g, o + 1, none⟩ (.int .i64 (b - tb + v))).heap[k]? = w1.heap[k]? := fun k hk => by rw [neq_set _ _ _ _ k hk, neq_set _ _ _ _ k hk]
    refine bodyPost_end (v := .tuple #[]) (by kernel_rfl) rfl ⟨⟨_, rfl⟩, e2, fun k hk hkg => (ne k hkg).trans (k1.block k hk), ?_, fun w0 q hq => ?_⟩
    · show w.heap.size ≤ ((w1.setCell ⟨g, o, none⟩ (.int .i64 (a - ta + v))).setCell ⟨g, o + 1, none⟩ (.int .i64 (b - tb + v))).heap.size
      rw [World.size_setCell, World.size_setCell]
      exact k1.le
    · exact (((q.trans k1).setCell (p := ⟨g, o, none⟩) hq _).setCell (p := ⟨g, o + 1, none⟩) hq _).drew
end Go.Proofs.YtodegcobkngmlaaGreatDoor
