import Derived.Test.YtodegcobkngmlaaGreatDoorProg
import Derived.Test.YtodegcobkngmlaaGreatDoorCS13
import Derived.Test.YtodegcobkngmlaaGreatDoorCS3
import Derived.Test.YtodegcobkngmlaaGreatDoorW3
import Derived.WalkKit
import Derived.WalkSpells
import Derived.WalkLawsBesides
import Derived.Deep.Draws
import Derived.Deep.QuietTactic
import Derived.BigQuiet
import Derived.Laws.Externs
import Derived.Laws.CopyOwn
import Derived.Shelf.Abstract
import Derived.Deep.RegionLaw
import Derived.BigRegion
import Derived.Deep.RegionHeld3
import Derived.RangeFuncBox
import Derived.RangeFuncLeaves
import Derived.RangeFuncCalls
import Derived.RangeFuncRecord
import Derived.Below
import Derived.OwnWalkIn
import Derived.TacticsInMore
import Derived.LoopNIn
import Derived.LoopIn
import Derived.Sort.LoopGhostIn
import Derived.Deep.RegionWith
import Derived.Stop.RegionWithIn
import Derived.Laws.MathBits
import Derived.Maps.OwnSet
import Derived.StringKeys
import Derived.RegionTactic
import Derived.Orders
import Derived.OrdersIn
import Derived.RegionIn
import Ieee.Arith
import Derived.Laws.StructEq
import Derived.Lib.BufferWrite
import Derived.Lib.UnsafeStr
import Derived.Laws.MakeOwn
import Derived.Deep.CutBlock
import Derived.Deep.CutRange
import Derived.WalkMore
import Derived.Test.YtodegcobkngmlaaGreatDoorCS18
import Derived.Test.YtodegcobkngmlaaGreatDoorCT9
set_option linter.unusedVariables false
set_option linter.unusedSimpArgs false
namespace Go.Proofs.YtodegcobkngmlaaGreatDoor
open Go.RowKit Go.Shelf
attribute [local go_sem] run_store_float
def bn0 (th : Nat) : Nd := { kd := 2, vl := 0, ft := 0, th := th, cs := [], ms := 1, lf := 1, rt := 2 }
def bnV (v : Int) : Nd := { kd := 1, vl := v, ft := 0, th := 0, cs := [], ms := 0, lf := 0, rt := 0 }
abbrev bnC (th : Nat) (v : Int) : Array Value := #[.int .u8 2, .int .i64 0, .int .i64 0, .float .f64 th, .slice none 0 0, .int .u8 1, .int .i64 1, .int .i64 2, .int .u8 1, .int .i64 0, .int .i64 0, .float .f64 0, .slice none 0 0, .int .u8 0, .int .i64 0, .int .i64 0, .int .u8 1, .int .i64 v, .int .i64 0, .float .f64 0, .slice none 0 0, .int .u8 0, .int .i64 0, .int .i64 0]
abbrev bnL (th : Nat) (v : Int) : List Nd := [bn0 th, bnV 0, bnV v]
theorem bn0_fit {th : Nat} (ht : th < 18446744073709551616) : (bn0 th).Fit := ⟨by simp [bn0], by simp [bn0], by simp [bn0], ht, by simp [bn0], by simp [bn0], by simp [bn0], by simp [bn0]⟩
theorem bnV_fit {v : Int} (hv : -9223372036854775808 ≤ v ∧ v ≤ 9223372036854775807) : (bnV v).Fit := ⟨by simp [bnV], hv, by simp [bnV], by simp [bnV], by simp [bnV], by simp [bnV], by simp [bnV], by simp [bnV]⟩
theorem bn_rd {w : World} {b th : Nat} {v : Int} (h : w.heap[b]? = some (.cells (bnC th v) 71 (0, 0))) (ht : th < 18446744073709551616) (hv : -9223372036854775808 ≤ v ∧ v ≤ 9223372036854775807) : RdN w (some ⟨b, 0, none⟩) (bnL th v) := by
  have c : ∀ k x, (bnC th v)[k]? = some x → w.cell? ⟨b, k, none⟩ = some x := fun k x hk => by rw [cell_of_row _ _ k _ 71 (0, 0) h]; exact hk
  intro j hj
  match j, hj with
  | 0, _ => exact ⟨b, 0, none, 0, rfl, ⟨c 0 _ rfl, c 1 _ rfl, c 2 _ rfl, c 3 _ rfl, c 4 _ rfl, c 5 _ rfl, c 6 _ rfl, c 7 _ rfl, fun q hq => absurd hq (Nat.not_lt_zero _), Nat.le_refl _, Nat.zero_le _, bn0_fit ht⟩⟩
  | 1, _ => exact ⟨b, 0, none, 0, rfl, ⟨c 8 _ rfl, c 9 _ rfl, c 10 _ rfl, c 11 _ rfl, c 12 _ rfl, c 13 _ rfl, c 14 _ rfl, c 15 _ rfl, fun q hq => absurd hq (Nat.not_lt_zero _), Nat.le_refl _, Nat.zero_le _, bnV_fit (by decide)⟩⟩
  | 2, _ => exact ⟨b, 0, none, 0, rfl, ⟨c 16 _ rfl, c 17 _ rfl, c 18 _ rfl, c 19 _ rfl, c 20 _ rfl, c 21 _ rfl, c 22 _ rfl, c 23 _ rfl, fun q hq => absurd hq (Nat.not_lt_zero _), Nat.le_refl _, Nat.zero_le _, bnV_fit hv⟩⟩
set_option maxRecDepth 100000 in
set_option maxHeartbeats 1000000 in
theorem tree_any (th : Nat) (v : Int) (w : World) :
    Calls Tryz.prog 16 #[.float .f64 th, .int .i64 v] w fun e w' => e = .returned (.agg #[.int .i64 0, .slice (some ⟨w.heap.size + 1, 0, none⟩) 3 3]) ∧ w'.heap[w.heap.size + 1]? = some (.cells (bnC th v) 71 (0, 0)) ∧ w'.heap.size = w.heap.size + 2 ∧ Keep w w' := by
  obtain ⟨w1, hw1, k1, t1, s1⟩ := boxed w #[.int .i64 0, .slice none 0 0] 51
  obtain ⟨w2, hw2, k2, t2, s2⟩ := boxed w1 (bnC th v) 71
  obtain ⟨w3, hw3, q1, q2, q3, q4⟩ := put2 (k2.at t1) (.int .i64 0) (.slice (some ⟨w.heap.size + 1, 0, none⟩) 3 3)
  obtain ⟨d0, d1, f0, f1⟩ := cells2 (k2.at t1)
  rw [s1] at t2 s2
  go_enter Tryz.func16, Tryz.ntmps16
  go_wp2_with (first | rw [hw1] | rw [hw2] | rw [hw3])
  refine bodyPost_ret (results_cell_row rfl _ _ w.heap.size 51 _ (0, 0) _ rfl q1 Tryz.underlying51 rfl (by kernel_rfl)) rfl ⟨rfl, (q2 _ (by omega)).trans t2, by omega, q4 w (k1.trans k2) (Nat.le_refl _)⟩
end Go.Proofs.YtodegcobkngmlaaGreatDoor
set_option linter.unusedVariables false
set_option linter.unusedSimpArgs false
namespace Go.Proofs.YtodegcobkngmlaaGreatDoor
open Go.RowKit Go.Shelf
abbrev bts : List (Int × List Nd) := [(0, bnL 4607182418800017408 10), (0, bnL 4611686018427387904 3)]
abbrev bxs : List Nat := [4617315517961601024]
theorem ch_bts : (chB ⟨#[109]⟩ sfs 1 [0] bts).1 = 0 := by decide +kernel
theorem ex_bts : exE ⟨#[109]⟩ sfs 1 [0] bts bxs.length = 0 := by decide +kernel
theorem be_bts : beL [0] bts (vX bxs) 1 = [(10, 13)] := by decide +kernel
theorem be_bts0 : beL [0] bts (vX bxs) 0 = [(0, 13)] := by decide +kernel
theorem bts_rd {w : World} {f b n1 n2 t : Nat} (hT : Kt w) (hf : w.heap[f]? = some (.cells #[.string ⟨#[97]⟩] 9 (0, 0))) (hb : w.heap[b]? = some (.cells #[.int .i64 0] 2 (0, 0))) (h1 : w.heap[n1]? = some (.cells (bnC 4607182418800017408 10) 71 (0, 0))) (h2 : w.heap[n2]? = some (.cells (bnC 4611686018427387904 3) 71 (0, 0))) (ht : w.heap[t]? = some (.cells #[.int .i64 0, .slice (some ⟨n1, 0, none⟩) 3 3, .int .i64 0, .slice (some ⟨n2, 0, none⟩) 3 3] 51 (0, 0))) :
    EnA w ⟨#[109]⟩ (some ⟨f, 0, none⟩) sfs (some ⟨b, 0, none⟩) [0] (some ⟨t, 0, none⟩) bts := by
  obtain ⟨f0, -⟩ := cells1 hf
  obtain ⟨b0, -⟩ := cells1 hb
  have t0 : w.cell? ⟨t, 0, none⟩ = some (.int .i64 0) := by rw [cell_of_row _ _ 0 _ 51 (0, 0) ht]; rfl
  have t1 : w.cell? ⟨t, 1, none⟩ = some (.slice (some ⟨n1, 0, none⟩) 3 3) := by rw [cell_of_row _ _ 1 _ 51 (0, 0) ht]; rfl
  have t2 : w.cell? ⟨t, 2, none⟩ = some (.int .i64 0) := by rw [cell_of_row _ _ 2 _ 51 (0, 0) ht]; rfl
  have t3 : w.cell? ⟨t, 3, none⟩ = some (.slice (some ⟨n2, 0, none⟩) 3 3) := by rw [cell_of_row _ _ 3 _ 51 (0, 0) ht]; rfl
  refine ⟨hT, by decide, ?_, by decide, ?_, by decide, ?_, ?_, by decide, ?_, ?_⟩
  · intro j hj
    match j, hj with
    | 0, _ => exact ⟨f, 0, rfl, f0⟩
  · intro j hj
    match j, hj with
    | 0, _ => decide
  · intro j hj
    match j, hj with
    | 0, _ => exact ⟨b, 0, rfl, b0⟩
  · intro x hx
    simp at hx; subst hx; decide
  · intro j hj
    match j, hj with
    | 0, _ => decide
    | 1, _ => decide
  · intro j hj
    match j, hj with
    | 0, _ => exact ⟨t, 0, some ⟨n1, 0, none⟩, 3, rfl, t0, t1, bn_rd h1 (by decide) (by decide), by decide⟩
    | 1, _ => exact ⟨t, 0, some ⟨n2, 0, none⟩, 3, rfl, t2, t3, bn_rd h2 (by decide) (by decide), by decide⟩
theorem bxs_rd {w : World} {b : Nat} (h : w.heap[b]? = some (.cells #[.float .f64 4617315517961601024] 53 (0, 0))) : RdF w (some ⟨b, 0, none⟩) bxs := by
  intro j hj
  match j, hj with
  | 0, _ => exact ⟨b, 0, rfl, (cells1 h).1⟩
/-- What Bounds and Above say of the small ensemble. -/
theorem Bounds_bts {w : World} {f b t x : Nat} (hE : EnA w ⟨#[109]⟩ (some ⟨f, 0, none⟩) sfs (some ⟨b, 0, none⟩) [0] (some ⟨t, 0, none⟩) bts) (hx : RdF w (some ⟨x, 0, none⟩) bxs) :
    Calls Tryz.prog 17 #[.agg #[.string ⟨#[109]⟩, .slice (some ⟨f, 0, none⟩) 1 1, .int .i64 1, .slice (some ⟨b, 0, none⟩) 1 1, .slice (some ⟨t, 0, none⟩) 2 2], .slice (some ⟨x, 0, none⟩) 1 1, .int .i64 1] w fun e w' => ∃ g, e = .returned (.tuple #[.slice (some ⟨g, 0, none⟩) 1 1, .int .i64 0]) ∧ w.heap.size ≤ g ∧ w'.heap[g]? = some (.cells #[.int .i64 10, .int .i64 13] 42 (0, 0)) ∧ Keep w w' := by
  refine (callsIn_wide.1 (Bounds_in 3 (by omega) ⟨#[109]⟩ (some ⟨f, 0, none⟩) sfs 1 1 (some ⟨b, 0, none⟩) [0] 1 (some ⟨t, 0, none⟩) bts 2 (some ⟨x, 0, none⟩) bxs 1 1 w hE hx ex_bts (rtE ch_bts rfl) (by decide))).mono ?_
  rintro e w' ⟨k, ⟨-, -, g, rfl, hg, hG⟩ | ⟨hno, -⟩⟩
  · refine ⟨g, rfl, hg, ?_, k⟩
    rw [hG, show (1 : Int).toNat = 1 from rfl, be_bts]
    rfl
  · exact absurd ⟨by decide, by decide⟩ hno
theorem Above_bts {w : World} {f b t x : Nat} (hE : EnA w ⟨#[109]⟩ (some ⟨f, 0, none⟩) sfs (some ⟨b, 0, none⟩) [0] (some ⟨t, 0, none⟩) bts) (hx : RdF w (some ⟨x, 0, none⟩) bxs) :
    Calls Tryz.prog 4 #[.agg #[.string ⟨#[109]⟩, .slice (some ⟨f, 0, none⟩) 1 1, .int .i64 1, .slice (some ⟨b, 0, none⟩) 1 1, .slice (some ⟨t, 0, none⟩) 2 2], .slice (some ⟨x, 0, none⟩) 1 1, .int .i64 0, .int .i64 9] w fun e w' => e = .returned (.tuple #[.bool true, .int .i64 1, .int .i64 0]) ∧ Keep w w' := by
  refine (callsIn_wide.1 (Above_in 3 (by omega) ⟨#[109]⟩ (some ⟨f, 0, none⟩) sfs 1 1 (some ⟨b, 0, none⟩) [0] 1 (some ⟨t, 0, none⟩) bts 2 (some ⟨x, 0, none⟩) bxs 1 0 9 w hE hx ex_bts (rtE ch_bts rfl) (by decide) (by decide))).mono ?_
  rintro e w' ⟨k, n, hn, rfl, hd, hp⟩
  have hn1 : n = 1 := by
    have h0 : ¬ dcB [0] bts (vX bxs) 0 9 0 := by unfold dcB; rw [be_bts0]; decide
    have h1 : dcB [0] bts (vX bxs) 0 9 1 := by unfold dcB; rw [be_bts]; decide
    have hne : n ≠ 0 := by
      rintro rfl
      rcases hd with q | q
      · exact h0 q
      · exact absurd q (by decide)
    by_cases h2 : n = 1
    · exact h2
    · exact absurd h1 (hp 1 (by omega))
  subst hn1
  refine ⟨?_, k⟩
  rw [be_bts]
  rfl
theorem put5 {w : World} {g T : Nat} {x0 x1 x2 x3 x4 : Value} (h : w.heap[g]? = some (.cells #[x0, x1, x2, x3, x4] T (0, 0))) (v0 v1 v2 v3 v4 : Value) :
    (w.frozen? ⟨g, 0, none⟩ = false ∧ w.frozen? ⟨g, 1, none⟩ = false ∧ w.frozen? ⟨g, 2, none⟩ = false ∧ w.frozen? ⟨g, 3, none⟩ = false ∧ w.frozen? ⟨g, 4, none⟩ = false) ∧
    ∃ w', (((((w.setCell ⟨g, 0, none⟩ v0).setCell ⟨g, 1, none⟩ v1).setCell ⟨g, 2, none⟩ v2).setCell ⟨g, 3, none⟩ v3).setCell ⟨g, 4, none⟩ v4) = w' ∧ w'.heap[g]? = some (.cells #[v0, v1, v2, v3, v4] T (0, 0)) ∧ (∀ k, k ≠ g → w'.heap[k]? = w.heap[k]?) ∧ w'.heap.size = w.heap.size ∧ (∀ w0, Keep w0 w → w0.heap.size ≤ g → Keep w0 w') :=
  ⟨⟨frozen_of_row _ _ 0 _ T h, frozen_of_row _ _ 1 _ T h, frozen_of_row _ _ 2 _ T h, frozen_of_row _ _ 3 _ T h, frozen_of_row _ _ 4 _ T h⟩, _, rfl, heap5 w g v0 v1 v2 v3 v4 h, fun k hk => neq5 w g v0 v1 v2 v3 v4 k hk, by simp only [World.size_setCell], fun w0 kk hg => keep5 kk g hg v0 v1 v2 v3 v4⟩
set_option maxRecDepth 100000 in
set_option maxHeartbeats 2000000 in
theorem begins_any (w : World) (hT : Kt w) : Calls Tryz.prog 8 #[] w fun e w' => e = .returned (.bool true) ∧ Keep w w' := by
  obtain ⟨w2, hw2, k2, s2, a1, a2⟩ := boxes2 w #[.string ⟨#[97]⟩] #[.int .i64 0] 9 2
  go_enter Tryz.func8, Tryz.ntmps8
  have tok1 : True := trivial
  go_wp2_with (first
    | rw [hw2]
    | (go_at_call 16; have _t := tok1; clear tok1; refine (tree_any 4607182418800017408 10 w2).mono ?_; rintro e w3 ⟨rfl, b1, s3, k3⟩; rw [s2] at b1 s3 ⊢; have tok2 : True := trivial)
    | (go_at_call 16; have _t := tok2; clear tok2; refine (tree_any 4611686018427387904 3 w3).mono ?_; rintro e w4 ⟨rfl, b2, s4, k4⟩; rw [s3] at b2 s4 ⊢
       obtain ⟨w5, hw5, k5, s5, c1, c2⟩ := boxes2 w4 #[.int .i64 0, .slice (some ⟨w.heap.size + 2 + 1, 0, none⟩) 3 3, .int .i64 0, .slice (some ⟨w.heap.size + 2 + 2 + 1, 0, none⟩) 3 3] #[.string ⟨#[]⟩, .slice none 0 0, .int .i64 0, .slice none 0 0, .slice none 0 0] 51 26
       rw [s4] at c1 c2
       obtain ⟨⟨f0, f1, f2, f3, f4⟩, w6, hw6, g1, g2, g3, g4⟩ := put5 c2 (.string ⟨#[109]⟩) (.slice (some ⟨w.heap.size, 0, none⟩) 1 1) (.int .i64 1) (.slice (some ⟨w.heap.size + 1, 0, none⟩) 1 1) (.slice (some ⟨w.heap.size + 2 + 2 + 2, 0, none⟩) 2 2)
       obtain ⟨d0, d1, d2, d3, d4⟩ := cells5 c2
       have k25 : Keep w2 w5 := (k3.trans k4).trans k5
       have k26 : Keep w2 w6 := g4 w2 k25 (by omega)
       have k46 : Keep w4 w6 := g4 w4 k5 (by omega)
       have z6 : w6.heap.size = w.heap.size + 2 + 2 + 2 + 2 := by omega
       have hE6 : EnA w6 ⟨#[109]⟩ (some ⟨w.heap.size, 0, none⟩) sfs (some ⟨w.heap.size + 1, 0, none⟩) [0] (some ⟨w.heap.size + 2 + 2 + 2, 0, none⟩) bts := bts_rd (hT.keep (k2.trans k26)) (k26.at a1) (k26.at a2) (k46.at (k4.at b1)) (k46.at b2) ((g2 _ (by omega)).trans c1)
       obtain ⟨e0, e1, e2, e3, e4⟩ := cells5 g1
       obtain ⟨w7, hw7, k7, t7, s7⟩ := boxed w6 #[.float .f64 4617315517961601024] 53
       rw [z6] at t7
       have hB8 := Bounds_bts (hE6.keep k7) (bxs_rd t7)
       replace hE6 : Hid _ := hE6)
    | (go_at_call 17; refine hB8.mono ?_; rintro e w8 ⟨g, rfl, hg, hG, k8⟩
       have k68 := k7.trans k8
       obtain ⟨y0, y1, y2, y3, y4⟩ := cells5 (k68.at g1)
       obtain ⟨w9, hw9, k9, t9, s9⟩ := boxed w8 #[.float .f64 4617315517961601024] 53
       have hA9 := Above_bts ((hE6.out.keep k68).keep k9) (bxs_rd t9))
    | (go_at_call 4; refine hA9.mono ?_; rintro e wA ⟨rfl, kA⟩
       obtain ⟨x0, x1, -, -⟩ := cells2 (kA.at (k9.at hG))))
  go_ret
  exact ⟨rfl, k2.trans (k26.trans (k68.trans (k9.trans kA)))⟩
end Go.Proofs.YtodegcobkngmlaaGreatDoor
set_option linter.unusedVariables false
set_option linter.unusedSimpArgs false
namespace Go.Proofs.YtodegcobkngmlaaGreatDoor
open Go.RowKit Go.Shelf
/-- What Above and Class say, both. -/
theorem first_one {P : Nat → Prop} {n k j : Nat} (hk : k ≤ n) (hj : j ≤ n) (h1 : P k ∨ k = n) (h2 : ∀ i, i < k → ¬ P i) (h3 : P j ∨ j = n) (h4 : ∀ i, i < j → ¬ P i) : k = j := by
  rcases Nat.lt_trichotomy k j with q | q | q
  · rcases h1 with h | h
    · exact absurd h (h4 k q)
    · omega
  · exact q
  · rcases h3 with h | h
    · exact absurd h (h2 j q)
    · omega
theorem lfV_all {nm : ByteArray} {fs : List ByteArray} {N : Int} {base : List Int} {ts : List (Int × List Nd)} {xs : List Nat} (h : (chB nm fs N base ts).1 = 0) (hx : xs.length = fs.length) : ∀ k, k < ts.length → lfV (ts.getD k (0, [])).2 xs = vX xs (ts.getD k (0, [])).2 := by
  obtain ⟨-, -, -, -, -, h5, -⟩ := chB_ok h
  rw [← hx] at h5
  intro k hk
  exact (lfV_eq (h5 k hk)).2.1
/-- Above says what the reference says. -/
theorem Above_both (nm : ByteArray) (fa : Option Addr) (fs : List ByteArray) (cf : Nat) (N : Int) (ba : Option Addr) (base : List Int) (cb : Nat) (ta : Option Addr) (ts : List (Int × List Nd)) (ct : Nat) (ax : Option Addr) (xs : List Nat) (cx : Nat) (o lim : Int) (w : World) (h : EnA w nm fa fs ba base ta ts) (hx : RdF w ax xs) (hxl : xs.length ≤ 17592186044416) :
    ∃ (b : Bool) (n e0 : Int), ∀ wx, Keep w wx → (Calls Tryz.prog 4 #[.agg (ev nm fa fs.length cf N ba base.length cb ta ts.length ct), .slice ax xs.length cx, .int .i64 o, .int .i64 lim] wx fun e w' => e = .returned (.tuple #[.bool b, .int .i64 n, .int .i64 e0]) ∧ Keep wx w') ∧
      (Calls Tryz.prog 5 #[.agg (ev nm fa fs.length cf N ba base.length cb ta ts.length ct), .slice ax xs.length cx, .int .i64 o, .int .i64 lim] wx fun e w' => e = .returned (.tuple #[.bool b, .int .i64 n, .int .i64 e0]) ∧ Keep wx w') := by
  by_cases he : exE nm fs N base ts xs.length = 0
  · obtain ⟨h1, h2⟩ : (chB nm fs N base ts).1 = 0 ∧ xs.length = fs.length := by
      unfold exE at he
      split at he
      · rename_i h1
        split at he
        · rename_i h2; exact ⟨h1, h2⟩
        · cases he
      · cases he
    have R := rtE h1 h2
    have hV := lfV_all h1 h2
    by_cases ho : 0 ≤ o ∧ o < N
    · have hN := R.nb
      subst hN
      obtain ⟨u, rfl⟩ : ∃ u : Nat, o = (u : Int) := ⟨o.toNat, by omega⟩
      have hu : u < base.length := by omega
      obtain ⟨k0, hk0, hd0, hp0⟩ : ∃ k, k ≤ ts.length ∧ (dcB base ts (vX xs) u lim k ∨ k = ts.length) ∧ ∀ j, j < k → ¬ dcB base ts (vX xs) u lim j := by
        have : ∀ n, n ≤ ts.length → (∀ j, j < n → ¬ dcB base ts (vX xs) u lim j) ∨ ∃ k, k ≤ ts.length ∧ (dcB base ts (vX xs) u lim k ∨ k = ts.length) ∧ ∀ j, j < k → ¬ dcB base ts (vX xs) u lim j := by
          intro n
          induction n with
          | zero => exact fun _ => .inl fun j hj => by omega
          | succ n ih =>
            intro hn
            rcases ih (by omega) with q | q
            · by_cases hd : dcB base ts (vX xs) u lim n
              · exact .inr ⟨n, by omega, .inl hd, q⟩
              · refine .inl fun j hj => ?_
                by_cases hjn : j = n
                · subst hjn; exact hd
                · exact q j (by omega)
            · exact .inr q
        rcases this ts.length (Nat.le_refl _) with q | q
        · exact ⟨ts.length, Nat.le_refl _, .inr rfl, q⟩
        · exact q
      refine ⟨decide (lim < ((beL base ts (vX xs) k0).getD u (0, 0)).1), (k0 : Int), 0, fun wx kx => ⟨?_, ?_⟩⟩
      · refine (callsIn_wide.1 (Above_in 3 (by omega) nm fa fs cf _ ba base cb ta ts ct ax xs cx u lim wx (h.keep kx) (hx.keep kx) he R hxl (by omega))).mono ?_
        rintro e w' ⟨kk, k, hk, rfl, hd, hp⟩
        rw [first_one hk hk0 hd hp hd0 hp0]
        exact ⟨rfl, kk⟩
      · refine (rAbove_ok nm fa fs cf ba base cb ta ts ct ax xs cx u lim wx (h.keep kx) (hx.keep kx) he R hxl hu hV).mono ?_
        rintro e w' ⟨kk, k, hk, rfl, hd, hp⟩
        rw [first_one hk hk0 hd hp hd0 hp0]
        exact ⟨rfl, kk⟩
    · exact ⟨false, 0, 2, fun wx kx => ⟨Above_range nm fa fs cf N ba base cb ta ts ct ax xs cx o lim wx (h.keep kx) he ho, rAbove_range nm fa fs cf N ba base cb ta ts ct ax xs cx o lim wx (h.keep kx) he ho⟩⟩
  · exact ⟨false, 0, exE nm fs N base ts xs.length, fun wx kx => ⟨Above_err nm fa fs cf N ba base cb ta ts ct ax xs cx o lim wx (h.keep kx) he, rAbove_err nm fa fs cf N ba base cb ta ts ct ax xs cx o lim wx (h.keep kx) he⟩⟩
theorem Class_both (nm : ByteArray) (fa : Option Addr) (fs : List ByteArray) (cf : Nat) (N : Int) (ba : Option Addr) (base : List Int) (cb : Nat) (ta : Option Addr) (ts : List (Int × List Nd)) (ct : Nat) (ax : Option Addr) (xs : List Nat) (cx : Nat) (w : World) (h : EnA w nm fa fs ba base ta ts) (hx : RdF w ax xs) (hxl : xs.length ≤ 17592186044416) :
    ∃ (c n e0 : Int), ∀ wx, Keep w wx → (Calls Tryz.prog 6 #[.agg (ev nm fa fs.length cf N ba base.length cb ta ts.length ct), .slice ax xs.length cx] wx fun e w' => e = .returned (.tuple #[.int .i64 c, .int .i64 n, .int .i64 e0]) ∧ Keep wx w') ∧
      (Calls Tryz.prog 7 #[.agg (ev nm fa fs.length cf N ba base.length cb ta ts.length ct), .slice ax xs.length cx] wx fun e w' => e = .returned (.tuple #[.int .i64 c, .int .i64 n, .int .i64 e0]) ∧ Keep wx w') := by
  by_cases he : exE nm fs N base ts xs.length = 0
  · obtain ⟨h1, h2⟩ : (chB nm fs N base ts).1 = 0 ∧ xs.length = fs.length := by
      unfold exE at he
      split at he
      · rename_i h1
        split at he
        · rename_i h2; exact ⟨h1, h2⟩
        · cases he
      · cases he
    have R := rtE h1 h2
    have hV := lfV_all h1 h2
    obtain ⟨-, SC⟩ := scE h1 h2
    have hN := R.nb
    subst hN
    have hCa := cr_all SC R.n1
    obtain ⟨k0, hk0, hd0, hp0⟩ : ∃ k, k ≤ ts.length ∧ ((crF base ts (vX xs) k).2 = true ∨ k = ts.length) ∧ ∀ j, j < k → ¬ (crF base ts (vX xs) j).2 = true := by
      have : ∀ n, n ≤ ts.length → (∀ j, j < n → ¬ (crF base ts (vX xs) j).2 = true) ∨ ∃ k, k ≤ ts.length ∧ ((crF base ts (vX xs) k).2 = true ∨ k = ts.length) ∧ ∀ j, j < k → ¬ (crF base ts (vX xs) j).2 = true := by
        intro n
        induction n with
        | zero => exact fun _ => .inl fun j hj => by omega
        | succ n ih =>
          intro hn
          rcases ih (by omega) with q | q
          · by_cases hd : (crF base ts (vX xs) n).2 = true
            · exact .inr ⟨n, by omega, .inl hd, q⟩
            · refine .inl fun j hj => ?_
              by_cases hjn : j = n
              · subst hjn; exact hd
              · exact q j (by omega)
          · exact .inr q
      rcases this ts.length (Nat.le_refl _) with q | q
      · exact ⟨ts.length, Nat.le_refl _, .inr rfl, q⟩
      · exact q
    refine ⟨(((crF base ts (vX xs) k0).1 : Nat) : Int), (k0 : Int), 0, fun wx kx => ⟨?_, ?_⟩⟩
    · refine (callsIn_wide.1 (Class_in 5 (by omega) nm fa fs cf _ ba base cb ta ts ct ax xs cx wx (h.keep kx) (hx.keep kx) he R hxl)).mono ?_
      rintro e w' ⟨kk, k, hk, rfl, hd, hp⟩
      rw [first_one (P := fun k => (crF base ts (vX xs) k).2 = true) hk hk0 hd (fun i hi q => by rw [hp i hi] at q; cases q) hd0 hp0]
      exact ⟨rfl, kk⟩
    · refine (rClass_ok nm fa fs cf ba base cb ta ts ct ax xs cx wx (h.keep kx) (hx.keep kx) he R hxl hCa hV).mono ?_
      rintro e w' ⟨kk, k, hk, rfl, hd, hp⟩
      rw [first_one (P := fun k => (crF base ts (vX xs) k).2 = true) hk hk0 (.inl hd) (fun i hi q => by rw [hp i hi] at q; cases q) hd0 hp0]
      exact ⟨rfl, kk⟩
  · exact ⟨0, 0, exE nm fs N base ts xs.length, fun wx kx => ⟨Class_err nm fa fs cf N ba base cb ta ts ct ax xs cx wx (h.keep kx) he, rClass_err nm fa fs cf N ba base cb ta ts ct ax xs cx wx (h.keep kx) he⟩⟩
set_option maxRecDepth 100000 in
set_option maxHeartbeats 4000000 in
theorem law_asks (nm : ByteArray) (fa : Option Addr) (fs : List ByteArray) (cf : Nat) (N : Int) (ba : Option Addr) (base : List Int) (cb : Nat) (ta : Option Addr) (ts : List (Int × List Nd)) (ct : Nat) (ax : Option Addr) (xs : List Nat) (cx : Nat) (o lim : Int) (w : World) (h : EnA w nm fa fs ba base ta ts) (hx : RdF w ax xs) (hxl : xs.length ≤ 17592186044416) :
    Calls Tryz.prog 3 #[.agg (ev nm fa fs.length cf N ba base.length cb ta ts.length ct), .slice ax xs.length cx, .int .i64 o, .int .i64 lim] w fun e w' => e = .returned (.bool true) ∧ Keep w w' := by
  obtain ⟨w1, hw1, k1, t1, s1⟩ := boxed w (ev nm fa fs.length cf N ba base.length cb ta ts.length ct) 26
  obtain ⟨b, n, e0, hA⟩ := Above_both nm fa fs cf N ba base cb ta ts ct ax xs cx o lim w h hx hxl
  obtain ⟨c, m, e1, hC⟩ := Class_both nm fa fs cf N ba base cb ta ts ct ax xs cx w h hx hxl
  have hB := fun wx (q : Keep w wx) => begins_any wx (h.tb.keep q)
  obtain ⟨x0, x1, x2, x3, x4⟩ := cells5 t1
  obtain ⟨M, hM⟩ : ∃ M, xs.length = M := ⟨_, rfl⟩
  rw [hM] at hA hC ⊢
  clear hM
  have g1 : (b == b) = true := by simp
  have g2 : (n == n) = true := by simp
  have g3 : (e0 == e0) = true := by simp
  have g4 : (c == c) = true := by simp
  have g5 : (m == m) = true := by simp
  have g6 : (e1 == e1) = true := by simp
  have a1 := (hA w1 k1).1
  go_enter Tryz.func3, Tryz.ntmps3
  go_wp2_with (first
    | rw [hw1]
    | (go_at_call 4; refine a1.mono ?_; rintro e w2 ⟨rfl, k2⟩; clear a1 x0 x1 x2 x3 x4; have k02 := k1.trans k2; obtain ⟨x0, x1, x2, x3, x4⟩ := cells5 (k2.at t1); have a2 := (hA w2 k02).2)
    | (go_at_call 5; refine a2.mono ?_; rintro e w3 ⟨rfl, k3⟩; clear a2 x0 x1 x2 x3 x4; have k03 := k02.trans k3; obtain ⟨x0, x1, x2, x3, x4⟩ := cells5 ((k2.trans k3).at t1); have a3 := (hC w3 k03).1)
    | (go_at_call 6; refine a3.mono ?_; rintro e w4 ⟨rfl, k4⟩; clear a3 x0 x1 x2 x3 x4; have k04 := k03.trans k4; obtain ⟨x0, x1, x2, x3, x4⟩ := cells5 (((k2.trans k3).trans k4).at t1); have a4 := (hC w4 k04).2)
    | (go_at_call 7; refine a4.mono ?_; rintro e w5 ⟨rfl, k5⟩; clear a4 x0 x1 x2 x3 x4; have k05 := k04.trans k5; have a5 := hB w5 k05)
    | (go_at_call 8; refine a5.mono ?_; rintro e w6 ⟨rfl, k6⟩))
  go_ret
  exact ⟨rfl, k05.trans k6⟩
end Go.Proofs.YtodegcobkngmlaaGreatDoor
