import Derived.Test.YtodegcobkngmlaaDoorProg
import Derived.Test.YtodegcobkngmlaaDoorD3
import Derived.Test.YtodegcobkngmlaaDoorH2
import Derived.Test.YtodegcobkngmlaaDoorYR1
import Derived.WalkKit
import Derived.WalkSpells
import Derived.WalkLawsBesides
import Derived.Deep.Draws
import Derived.Deep.QuietTactic
import Derived.BigQuiet
import Derived.Laws.Externs
import Derived.Laws.CopyOwn
import Derived.Shelf.Abstract
import Derived.Deep.RegionLaw
import Derived.BigRegion
import Derived.Deep.RegionHeld3
import Derived.RangeFuncBox
import Derived.RangeFuncLeaves
import Derived.RangeFuncCalls
import Derived.RangeFuncRecord
import Derived.Below
import Derived.OwnWalkIn
import Derived.TacticsInMore
import Derived.LoopNIn
import Derived.LoopIn
import Derived.Sort.LoopGhostIn
import Derived.Deep.RegionWith
import Derived.Stop.RegionWithIn
set_option linter.unusedVariables false
set_option linter.unusedSimpArgs false
namespace Go.Proofs.YtodegcobkngmlaaDoor
open Go.RowKit Go.Shelf
attribute [local go_sem] run_store_func
/-- The node's rules as they lie. -/
abbrev nrL (s : Nat) : List Rl := [(13, 76, #[pv s]), (14, 78, #[pv s]), (15, 80, #[pv s, pv (s + 1)]), (16, 81, #[pv s]), (17, 82, #[pv s]), (18, 84, #[pv s]), (19, 85, #[pv s, pv (s + 1 + 1)])]
abbrev nrC (s : Nat) : Array Value := #[.int .i64 13, .func (.func 76) #[] #[pv s], .int .i64 14, .func (.func 78) #[] #[pv s], .int .i64 15, .func (.func 80) #[] #[pv s, pv (s + 1)], .int .i64 16, .func (.func 81) #[] #[pv s], .int .i64 17, .func (.func 82) #[] #[pv s], .int .i64 18, .func (.func 84) #[] #[pv s], .int .i64 19, .func (.func 85) #[] #[pv s, pv (s + 1 + 1)]]
/-- What nodeRules has laid. -/
structure NRs (w : World) (s g : Nat) (F M : Int) : Prop where
  bp : w.heap[s]? = some (.cells #[.pointer (some ⟨g, 0, none⟩)] 84 (0, 0))
  bF : w.heap[s + 1]? = some (.cells #[.int .i64 F] 3 (0, 0))
  bM : w.heap[s + 1 + 1]? = some (.cells #[.int .i64 M] 3 (0, 0))
  bR : w.heap[s + 1 + 1 + 1]? = some (.cells (nrC s) 92 (0, 0))
theorem NRs.keep {w w' : World} {s g : Nat} {F M : Int} (h : NRs w s g F M) (k : Keep w w') : NRs w' s g F M := ⟨k.at h.bp, k.at h.bF, k.at h.bM, k.at h.bR⟩
theorem NRs.same {w w' : World} {s g : Nat} {F M : Int} (h : NRs w s g F M) (e : ∀ i, s ≤ i → i ≤ s + 1 + 1 + 1 → w'.heap[i]? = w.heap[i]?) : NRs w' s g F M := ⟨(e _ (by omega) (by omega)).trans h.bp, (e _ (by omega) (by omega)).trans h.bF, (e _ (by omega) (by omega)).trans h.bM, (e _ (by omega) (by omega)).trans h.bR⟩
theorem NRs.rd {w : World} {s g : Nat} {F M : Int} (h : NRs w s g F M) : RdR w (some ⟨s + 1 + 1 + 1, 0, none⟩) (nrL s) := rdR_of h.bR (by
    intro j hj
    match j, hj with
    | 0, _ => exact ⟨rfl, rfl⟩
    | 1, _ => exact ⟨rfl, rfl⟩
    | 2, _ => exact ⟨rfl, rfl⟩
    | 3, _ => exact ⟨rfl, rfl⟩
    | 4, _ => exact ⟨rfl, rfl⟩
    | 5, _ => exact ⟨rfl, rfl⟩
    | 6, _ => exact ⟨rfl, rfl⟩)
/-- A node's rules, one by one. -/
def ndS (n : Nd) (F M : Int) : List (Int × Bool) := [(13, q13 n), (14, restB n), (15, q15 n F), (16, q16 n), (17, q17 n), (18, q18 n), (19, q19 n M)]
set_option maxRecDepth 100000 in
theorem NRs.first {w : World} {s g : Nat} {F M : Int} (h : NRs w s g F M) {n : Nd} {ca : Option Addr} {cap : Nat} (hn : w.heap[g]? = some (.cells (nvs n ca cap) 67 (0, 0))) (hr : RdI w ca n.cs) (hl : n.cs.length ≤ 17592186044416) (hF : 0 ≤ F ∧ F ≤ 4611686018427387904) (hM : 0 ≤ M ∧ M ≤ 4611686018427387904) (t i : Int) :
    Calls Tryd.prog 37 #[.slice (some ⟨s + 1 + 1 + 1, 0, none⟩) 7 7, .int .i64 t, .int .i64 i] w fun e w' => e = .returned (bkV (sel (ndS n F M) t i)) ∧ Keep w w' := by
  have B : NB w s g n ca cap := ⟨h.bp, hn, hr, hl⟩
  exact first_any (some ⟨s + 1 + 1 + 1, 0, none⟩) 7 (nrL s) (bsl [q13 n, restB n, q15 n F, q16 n, q17 n, q18 n, q19 n M]) t i w h.rd (by simp) (by
    intro j hj
    match j, hj with
    | 0, _ => exact nr1_ans B
    | 1, _ => exact nr2_ans B
    | 2, _ => exact nr3_ans B h.bF hF
    | 3, _ => exact nr4_ans B
    | 4, _ => exact nr5_ans B
    | 5, _ => exact nr6_ans B
    | 6, _ => exact nr7_ans B h.bM hM)
set_option maxRecDepth 100000 in
theorem nodeRules_any (g : Nat) (F M : Int) (w : World) : Calls Tryd.prog 63 #[.pointer (some ⟨g, 0, none⟩), .int .i64 F, .int .i64 M] w fun e w' => e = .returned (.slice (some ⟨w.heap.size + 1 + 1 + 1, 0, none⟩) 7 7) ∧ Keep w w' ∧ NRs w' w.heap.size g F M ∧ w'.heap.size = w.heap.size + 1 + 1 + 1 + 1 := by
  obtain ⟨w1, hw1, k1, t1, s1⟩ := boxed w #[.pointer (some ⟨g, 0, none⟩)] 84
  obtain ⟨w2, hw2, k2, t2, s2⟩ := boxed w1 #[.int .i64 F] 3
  obtain ⟨w3, hw3, k3, t3, s3⟩ := boxed w2 #[.int .i64 M] 3
  obtain ⟨w4, hw4, k4, t4, s4⟩ := boxed w3 (nrC w.heap.size) 92
  rw [s1] at t2 s2
  rw [s2] at t3 s3
  rw [s3] at t4 s4
  have R : NRs w4 w.heap.size g F M := ⟨k4.at (k3.at (k2.at t1)), k4.at (k3.at t2), k4.at t3, t4⟩
  replace R : Hid _ := R
  replace s4 : Hid _ := s4
  have kk := k1.trans (k2.trans (k3.trans k4))
  clear t1 t2 t3 t4
  go_enter Tryd.func63, Tryd.ntmps63
  go_wp2_with (first | rw [hw1] | rw [hw2] | rw [hw3])
  go_ret
  exact ⟨rfl, kk, R.out, s4.out⟩
theorem tr1_ans {w : World} {g ge : Nat} {out N : Int} {v0 v1 v3 v4 u1 : Value} (ht : w.heap[g]? = some (.cells #[.int .i64 out, u1] 46 (0, 0))) (he : w.heap[ge]? = some (.cells #[v0, v1, .int .i64 N, v3, v4] 26 (0, 0))) (hN : 0 ≤ N ∧ N ≤ 4611686018427387904) : Ans w (11, 61, #[pv g, pv ge]) (winB out 0 (N - 1)) := by
  refine ⟨fun wx => by kernel_rfl, fun wx k => ?_⟩
  obtain ⟨c0, -, -, -⟩ := cells2 (k.at ht)
  obtain ⟨-, -, c2, -, -⟩ := cells5 (k.at he)
  have hwr : IntKind.i64.wrap (N - 1) = N - 1 := by rw [IntWalk.i64_left]; exact IntWalk.wrap64_in _ (by omega)
  have hwr2 : wrap64 (N - 1) = N - 1 := IntWalk.wrap64_in _ (by omega)
  clear hN
  show Calls Tryd.prog 61 #[.pointer (some ⟨g, 0, none⟩), .pointer (some ⟨ge, 0, none⟩)] wx _
  go_enter Tryd.func61, Tryd.ntmps61
  go_wp2_with (go_at_call 41; refine (within_any _ _ _ _).mono ?_; rintro e w0 ⟨rfl, rfl⟩)
  go_ret
  exact ⟨rfl, Keep.refl _⟩
theorem tr2_ans {w : World} {g n c : Nat} {a : Option Addr} {u0 : Value} (ht : w.heap[g]? = some (.cells #[u0, .slice a n c] 46 (0, 0))) : Ans w (12, 62, #[pv g]) (winB n 1 8191) := by
  refine ⟨fun wx => by kernel_rfl, fun wx k => ?_⟩
  obtain ⟨-, c1, -, -⟩ := cells2 (k.at ht)
  show Calls Tryd.prog 62 #[.pointer (some ⟨g, 0, none⟩)] wx _
  go_enter Tryd.func62, Tryd.ntmps62
  go_wp2_with (go_at_call 41; refine (within_any _ _ _ _).mono ?_; rintro e w0 ⟨rfl, rfl⟩)
  go_ret
  exact ⟨rfl, Keep.refl _⟩
theorem tr3_ans {w : World} {g : Nat} {z : Int} (ht : w.heap[g]? = some (.cells #[.int .i64 z] 29 (0, 0))) : Ans w (20, 64, #[pv g]) (z == 0) := by
  refine ⟨fun wx => by kernel_rfl, fun wx k => ?_⟩
  obtain ⟨c1, -⟩ := cells1 (k.at ht)
  show Calls Tryd.prog 64 #[.pointer (some ⟨g, 0, none⟩)] wx _
  go_enter Tryd.func64, Tryd.ntmps64
  go_wp2_with fail
  go_ret
  exact ⟨rfl, Keep.refl _⟩
end Go.Proofs.YtodegcobkngmlaaDoor
