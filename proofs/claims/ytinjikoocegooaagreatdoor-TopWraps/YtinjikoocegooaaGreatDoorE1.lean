import Derived.Test.YtinjikoocegooaaGreatDoorProg
import Derived.Test.YtinjikoocegooaaGreatDoorH1
import Derived.WalkKit
import Derived.WalkSpells
import Derived.WalkLawsBesides
import Derived.Deep.Draws
import Derived.Deep.QuietTactic
import Derived.BigQuiet
import Derived.Laws.Externs
import Derived.Laws.CopyOwn
import Derived.Shelf.Abstract
import Derived.Deep.RegionLaw
import Derived.BigRegion
import Derived.Deep.RegionHeld3
import Derived.Test.YtinjikoocegooaaGreatDoorD3
import Derived.Test.YtinjikoocegooaaGreatDoorYR1
import Derived.RangeFuncBox
import Derived.RangeFuncLeaves
import Derived.RangeFuncCalls
import Derived.RangeFuncRecord
import Derived.Below
import Derived.OwnWalkIn
import Derived.TacticsInMore
import Derived.LoopNIn
import Derived.LoopIn
import Derived.Sort.LoopGhostIn
import Derived.Deep.RegionWith
import Derived.Stop.RegionWithIn
import Derived.Test.YtinjikoocegooaaGreatDoorYU1
import Derived.Test.YtinjikoocegooaaGreatDoorYX4
set_option linter.unusedVariables false
set_option linter.unusedSimpArgs false
namespace Go.Proofs.YtinjikoocegooaaGreatDoor
open Go.RowKit Go.Shelf
attribute [local go_sem] run_store_func
/-- The first rule of some that is broken. -/
def sel : List (Int × Bool) → Int → Int → Bk
  | [], _, _ => (0, 0, 0)
  | (r, b) :: l, t, n => if b = true then sel l t n else (r, t, n)
abbrev ev (nm : ByteArray) (fa : Option Addr) (F cf : Nat) (N : Int) (ba : Option Addr) (bl cb : Nat) (ta : Option Addr) (tl ct : Nat) : Array Value := #[.string nm, .slice fa F cf, .int .i64 N, .slice ba bl cb, .slice ta tl ct]
def bsl (l : List Bool) (j : Nat) : Bool := l.getD j true
set_option maxRecDepth 100000 in
theorem ofHead_any (nm : ByteArray) (fa : Option Addr) (F cf : Nat) (N : Int) (ba : Option Addr) (bl cb : Nat) (ta : Option Addr) (tl ct : Nat) (w : World) (hT : Kt w) (hs : nm.size ≤ 281474976710656) :
    Calls Tryz.prog 36 #[.agg (ev nm fa F cf N ba bl cb ta tl ct)] w fun e w' => e = .returned (bkV (sel [(1, nameB nm), (2, winB F 1 65536)] (-1) (-1))) ∧ Keep w w' := by
  obtain ⟨w1, hw1, k1, t1, s1⟩ := boxed w (ev nm fa F cf N ba bl cb ta tl ct) 26
  obtain ⟨w2, hw2, k2, t2, s2⟩ := boxed w1 #[.int .i64 0, .int .i64 0, .int .i64 0] 58
  obtain ⟨w3, hw3, k3, t3, s3⟩ := boxed w2 #[.int .i64 1, .func (.func 55) #[] #[pv w.heap.size], .int .i64 2, .func (.func 57) #[] #[pv w.heap.size]] 101
  rw [s1] at t2 s2
  rw [s2] at t3 s3
  have q1 := k3.at (k2.at t1)
  have q2 := k3.at t2
  have hR : RdR w3 (some ⟨w.heap.size + 1 + 1, 0, none⟩) [(1, 55, #[pv w.heap.size]), (2, 57, #[pv w.heap.size])] := rdR_of t3 (by
    intro j hj
    match j, hj with
    | 0, _ => exact ⟨rfl, rfl⟩
    | 1, _ => exact ⟨rfl, rfl⟩)
  have hF := first_any (some ⟨w.heap.size + 1 + 1, 0, none⟩) 2 _ (bsl [nameB nm, winB F 1 65536]) (-1) (-1) w3 hR (by simp) (by
    intro j hj
    match j, hj with
    | 0, _ => exact hd1_ans q1 (hT.keep ((k1.trans k2).trans k3)) hs
    | 1, _ => exact hd2_ans q1)
  have HE : Hid (fsB [(1, 55, #[pv w.heap.size]), (2, 57, #[pv w.heap.size])] (bsl [nameB nm, winB F 1 65536]) (-1) (-1) = sel [(1, nameB nm), (2, winB F 1 65536)] (-1) (-1)) := rfl
  rw [HE.out] at hF
  clear HE
  generalize sel [(1, nameB nm), (2, winB F 1 65536)] (-1) (-1) = B at hF ⊢
  obtain ⟨x0, x1, x2⟩ := B
  go_enter Tryz.func36, Tryz.ntmps36
  go_wp2_with (first | rw [hw1] | rw [hw2] | rw [hw3] | (go_at_call 54; refine hF.mono ?_; rintro e w4 ⟨rfl, k4⟩; have q3 := k4.at q2; obtain ⟨c0, c1, c2, f0, f1, f2⟩ := cells3 q3))
  have h := heap3 w4 (w.heap.size + 1) (.int .i64 x0) (.int .i64 x1) (.int .i64 x2) q3
  have kk := keep3 (((k1.trans k2).trans k3).trans k4) (w.heap.size + 1) (by omega) (.int .i64 x0) (.int .i64 x1) (.int .i64 x2)
  exact bodyPost_ret (ret_bk rfl _ _ (w.heap.size + 1) _ _ _ rfl h) rfl ⟨rfl, kk⟩
set_option maxRecDepth 100000 in
theorem ofCounts_any (nm : ByteArray) (fa : Option Addr) (F cf : Nat) (N : Int) (ba : Option Addr) (bl cb : Nat) (ta : Option Addr) (tl ct : Nat) (w : World) :
    Calls Tryz.prog 38 #[.agg (ev nm fa F cf N ba bl cb ta tl ct)] w fun e w' => e = .returned (bkV (sel [(5, winB N 1 64), (6, (bl : Int) == N), (7, decide ((tl : Int) ≤ 65536))] (-1) (-1))) ∧ Keep w w' := by
  obtain ⟨w1, hw1, k1, t1, s1⟩ := boxed w (ev nm fa F cf N ba bl cb ta tl ct) 26
  obtain ⟨w2, hw2, k2, t2, s2⟩ := boxed w1 #[.int .i64 0, .int .i64 0, .int .i64 0] 58
  obtain ⟨w3, hw3, k3, t3, s3⟩ := boxed w2 #[.int .i64 5, .func (.func 61) #[] #[pv w.heap.size], .int .i64 6, .func (.func 62) #[] #[pv w.heap.size], .int .i64 7, .func (.func 63) #[] #[pv w.heap.size]] 101
  rw [s1] at t2 s2
  rw [s2] at t3 s3
  have q1 := k3.at (k2.at t1)
  have q2 := k3.at t2
  have hR : RdR w3 (some ⟨w.heap.size + 1 + 1, 0, none⟩) [(5, 61, #[pv w.heap.size]), (6, 62, #[pv w.heap.size]), (7, 63, #[pv w.heap.size])] := rdR_of t3 (by
    intro j hj
    match j, hj with
    | 0, _ => exact ⟨rfl, rfl⟩
    | 1, _ => exact ⟨rfl, rfl⟩
    | 2, _ => exact ⟨rfl, rfl⟩)
  have hF := first_any (some ⟨w.heap.size + 1 + 1, 0, none⟩) 3 _ (bsl [winB N 1 64, (bl : Int) == N, decide ((tl : Int) ≤ 65536)]) (-1) (-1) w3 hR (by simp) (by
    intro j hj
    match j, hj with
    | 0, _ => exact ct1_ans q1
    | 1, _ => exact ct2_ans q1
    | 2, _ => exact ct3_ans q1)
  have HE : Hid (fsB [(5, 61, #[pv w.heap.size]), (6, 62, #[pv w.heap.size]), (7, 63, #[pv w.heap.size])] (bsl [winB N 1 64, (bl : Int) == N, decide ((tl : Int) ≤ 65536)]) (-1) (-1) = sel [(5, winB N 1 64), (6, (bl : Int) == N), (7, decide ((tl : Int) ≤ 65536))] (-1) (-1)) := rfl
  rw [HE.out] at hF
  clear HE
  generalize sel [(5, winB N 1 64), (6, (bl : Int) == N), (7, decide ((tl : Int) ≤ 65536))] (-1) (-1) = B at hF ⊢
  obtain ⟨x0, x1, x2⟩ := B
  go_enter Tryz.func38, Tryz.ntmps38
  go_wp2_with (first | rw [hw1] | rw [hw2] | rw [hw3] | (go_at_call 54; refine hF.mono ?_; rintro e w4 ⟨rfl, k4⟩; have q3 := k4.at q2; obtain ⟨c0, c1, c2, f0, f1, f2⟩ := cells3 q3))
  have h := heap3 w4 (w.heap.size + 1) (.int .i64 x0) (.int .i64 x1) (.int .i64 x2) q3
  have kk := keep3 (((k1.trans k2).trans k3).trans k4) (w.heap.size + 1) (by omega) (.int .i64 x0) (.int .i64 x1) (.int .i64 x2)
  exact bodyPost_ret (ret_bk rfl _ _ (w.heap.size + 1) _ _ _ rfl h) rfl ⟨rfl, kk⟩
end Go.Proofs.YtinjikoocegooaaGreatDoor
set_option linter.unusedVariables false
set_option linter.unusedSimpArgs false
namespace Go.Proofs.YtinjikoocegooaaGreatDoor
open Go.RowKit Go.Shelf
attribute [local go_sem] run_store_func
/-- The node's rules as they lie. -/
abbrev nrL (s : Nat) : List Rl := [(13, 104, #[pv s]), (14, 106, #[pv s]), (15, 108, #[pv s, pv (s + 1)]), (16, 109, #[pv s]), (17, 110, #[pv s]), (18, 112, #[pv s]), (19, 113, #[pv s, pv (s + 1 + 1)])]
abbrev nrC (s : Nat) : Array Value := #[.int .i64 13, .func (.func 104) #[] #[pv s], .int .i64 14, .func (.func 106) #[] #[pv s], .int .i64 15, .func (.func 108) #[] #[pv s, pv (s + 1)], .int .i64 16, .func (.func 109) #[] #[pv s], .int .i64 17, .func (.func 110) #[] #[pv s], .int .i64 18, .func (.func 112) #[] #[pv s], .int .i64 19, .func (.func 113) #[] #[pv s, pv (s + 1 + 1)]]
/-- What nodeRules has laid. -/
structure NRs (w : World) (s g : Nat) (F M : Int) : Prop where
  bp : w.heap[s]? = some (.cells #[.pointer (some ⟨g, 0, none⟩)] 110 (0, 0))
  bF : w.heap[s + 1]? = some (.cells #[.int .i64 F] 3 (0, 0))
  bM : w.heap[s + 1 + 1]? = some (.cells #[.int .i64 M] 3 (0, 0))
  bR : w.heap[s + 1 + 1 + 1]? = some (.cells (nrC s) 101 (0, 0))
theorem NRs.keep {w w' : World} {s g : Nat} {F M : Int} (h : NRs w s g F M) (k : Keep w w') : NRs w' s g F M := ⟨k.at h.bp, k.at h.bF, k.at h.bM, k.at h.bR⟩
theorem NRs.same {w w' : World} {s g : Nat} {F M : Int} (h : NRs w s g F M) (e : ∀ i, s ≤ i → i ≤ s + 1 + 1 + 1 → w'.heap[i]? = w.heap[i]?) : NRs w' s g F M := ⟨(e _ (by omega) (by omega)).trans h.bp, (e _ (by omega) (by omega)).trans h.bF, (e _ (by omega) (by omega)).trans h.bM, (e _ (by omega) (by omega)).trans h.bR⟩
theorem NRs.rd {w : World} {s g : Nat} {F M : Int} (h : NRs w s g F M) : RdR w (some ⟨s + 1 + 1 + 1, 0, none⟩) (nrL s) := rdR_of h.bR (by
    intro j hj
    match j, hj with
    | 0, _ => exact ⟨rfl, rfl⟩
    | 1, _ => exact ⟨rfl, rfl⟩
    | 2, _ => exact ⟨rfl, rfl⟩
    | 3, _ => exact ⟨rfl, rfl⟩
    | 4, _ => exact ⟨rfl, rfl⟩
    | 5, _ => exact ⟨rfl, rfl⟩
    | 6, _ => exact ⟨rfl, rfl⟩)
/-- A node's rules, one by one. -/
def ndS (n : Nd) (F M : Int) : List (Int × Bool) := [(13, q13 n), (14, restB n), (15, q15 n F), (16, q16 n), (17, q17 n), (18, q18 n), (19, q19 n M)]
set_option maxRecDepth 100000 in
theorem NRs.first {w : World} {s g : Nat} {F M : Int} (h : NRs w s g F M) {n : Nd} {ca : Option Addr} {cap : Nat} (hn : w.heap[g]? = some (.cells (nvs n ca cap) 81 (0, 0))) (hr : RdI w ca n.cs) (hl : n.cs.length ≤ 17592186044416) (hF : 0 ≤ F ∧ F ≤ 4611686018427387904) (hM : 0 ≤ M ∧ M ≤ 4611686018427387904) (t i : Int) :
    Calls Tryz.prog 54 #[.slice (some ⟨s + 1 + 1 + 1, 0, none⟩) 7 7, .int .i64 t, .int .i64 i] w fun e w' => e = .returned (bkV (sel (ndS n F M) t i)) ∧ Keep w w' := by
  have B : NB w s g n ca cap := ⟨h.bp, hn, hr, hl⟩
  exact first_any (some ⟨s + 1 + 1 + 1, 0, none⟩) 7 (nrL s) (bsl [q13 n, restB n, q15 n F, q16 n, q17 n, q18 n, q19 n M]) t i w h.rd (by simp) (by
    intro j hj
    match j, hj with
    | 0, _ => exact nr1_ans B
    | 1, _ => exact nr2_ans B
    | 2, _ => exact nr3_ans B h.bF hF
    | 3, _ => exact nr4_ans B
    | 4, _ => exact nr5_ans B
    | 5, _ => exact nr6_ans B
    | 6, _ => exact nr7_ans B h.bM hM)
set_option maxRecDepth 100000 in
theorem nodeRules_any (g : Nat) (F M : Int) (w : World) : Calls Tryz.prog 90 #[.pointer (some ⟨g, 0, none⟩), .int .i64 F, .int .i64 M] w fun e w' => e = .returned (.slice (some ⟨w.heap.size + 1 + 1 + 1, 0, none⟩) 7 7) ∧ Keep w w' ∧ NRs w' w.heap.size g F M ∧ w'.heap.size = w.heap.size + 1 + 1 + 1 + 1 := by
  obtain ⟨w1, hw1, k1, t1, s1⟩ := boxed w #[.pointer (some ⟨g, 0, none⟩)] 110
  obtain ⟨w2, hw2, k2, t2, s2⟩ := boxed w1 #[.int .i64 F] 3
  obtain ⟨w3, hw3, k3, t3, s3⟩ := boxed w2 #[.int .i64 M] 3
  obtain ⟨w4, hw4, k4, t4, s4⟩ := boxed w3 (nrC w.heap.size) 101
  rw [s1] at t2 s2
  rw [s2] at t3 s3
  rw [s3] at t4 s4
  have R : NRs w4 w.heap.size g F M := ⟨k4.at (k3.at (k2.at t1)), k4.at (k3.at t2), k4.at t3, t4⟩
  replace R : Hid _ := R
  replace s4 : Hid _ := s4
  have kk := k1.trans (k2.trans (k3.trans k4))
  clear t1 t2 t3 t4
  go_enter Tryz.func90, Tryz.ntmps90
  go_wp2_with (first | rw [hw1] | rw [hw2] | rw [hw3])
  go_ret
  exact ⟨rfl, kk, R.out, s4.out⟩
theorem tr1_ans {w : World} {g ge : Nat} {out N : Int} {v0 v1 v3 v4 u1 : Value} (ht : w.heap[g]? = some (.cells #[.int .i64 out, u1] 48 (0, 0))) (he : w.heap[ge]? = some (.cells #[v0, v1, .int .i64 N, v3, v4] 26 (0, 0))) (hN : 0 ≤ N ∧ N ≤ 4611686018427387904) : Ans w (11, 88, #[pv g, pv ge]) (winB out 0 (N - 1)) := by
  refine ⟨fun wx => by kernel_rfl, fun wx k => ?_⟩
  obtain ⟨c0, -, -, -⟩ := cells2 (k.at ht)
  obtain ⟨-, -, c2, -, -⟩ := cells5 (k.at he)
  have hwr : IntKind.i64.wrap (N - 1) = N - 1 := by rw [IntWalk.i64_left]; exact IntWalk.wrap64_in _ (by omega)
  have hwr2 : wrap64 (N - 1) = N - 1 := IntWalk.wrap64_in _ (by omega)
  clear hN
  show Calls Tryz.prog 88 #[.pointer (some ⟨g, 0, none⟩), .pointer (some ⟨ge, 0, none⟩)] wx _
  go_enter Tryz.func88, Tryz.ntmps88
  go_wp2_with (go_at_call 58; refine (within_any _ _ _ _).mono ?_; rintro e w0 ⟨rfl, rfl⟩)
  go_ret
  exact ⟨rfl, Keep.refl _⟩
theorem tr2_ans {w : World} {g n c : Nat} {a : Option Addr} {u0 : Value} (ht : w.heap[g]? = some (.cells #[u0, .slice a n c] 48 (0, 0))) : Ans w (12, 89, #[pv g]) (winB n 1 8191) := by
  refine ⟨fun wx => by kernel_rfl, fun wx k => ?_⟩
  obtain ⟨-, c1, -, -⟩ := cells2 (k.at ht)
  show Calls Tryz.prog 89 #[.pointer (some ⟨g, 0, none⟩)] wx _
  go_enter Tryz.func89, Tryz.ntmps89
  go_wp2_with (go_at_call 58; refine (within_any _ _ _ _).mono ?_; rintro e w0 ⟨rfl, rfl⟩)
  go_ret
  exact ⟨rfl, Keep.refl _⟩
theorem tr3_ans {w : World} {g : Nat} {z : Int} (ht : w.heap[g]? = some (.cells #[.int .i64 z] 38 (0, 0))) : Ans w (20, 91, #[pv g]) (z == 0) := by
  refine ⟨fun wx => by kernel_rfl, fun wx k => ?_⟩
  obtain ⟨c1, -⟩ := cells1 (k.at ht)
  show Calls Tryz.prog 91 #[.pointer (some ⟨g, 0, none⟩)] wx _
  go_enter Tryz.func91, Tryz.ntmps91
  go_wp2_with fail
  go_ret
  exact ⟨rfl, Keep.refl _⟩
end Go.Proofs.YtinjikoocegooaaGreatDoor
set_option linter.unusedVariables false
set_option linter.unusedSimpArgs false
namespace Go.Proofs.YtinjikoocegooaaGreatDoor
open Go.RowKit Go.Shelf
attribute [local go_sem] run_store_func run_store_float
/-- The nodes' rules, node by node. -/
def tnF (L : List Nd) (F : Int) (t : Int) : Nat → Nat → Bk
  | 0, _ => (0, 0, 0)
  | f + 1, k => if (sel (ndS (L.getD k nd0) F (L.length : Int)) t (k : Int)).1 = 0 then tnF L F t f (k + 1) else sel (ndS (L.getD k nd0) F (L.length : Int)) t (k : Int)
/-- A tree's rules. -/
def trB (out N F : Int) (L : List Nd) (t : Int) : Bk :=
  if (sel [(11, winB out 0 (N - 1)), (12, winB (L.length : Int) 1 8191)] t (-1)).1 = 0 then (if (tnF L F t L.length 0).1 = 0 then sel [(20, shE L == 0)] t (shI L : Int) else tnF L F t L.length 0) else sel [(11, winB out 0 (N - 1)), (12, winB (L.length : Int) 1 8191)] t (-1)
theorem sel_zero : ∀ (l : List (Int × Bool)) (t n : Int), (sel l t n).1 = 0 → (∀ x ∈ l, x.1 ≠ 0) → sel l t n = (0, 0, 0)
  | [], t, n, _, _ => rfl
  | (r, b) :: l, t, n, h, hr => by
    rw [sel] at h ⊢
    split at h
    · rename_i hb; rw [if_pos hb]; exact sel_zero l t n h (fun x hx => hr x (List.mem_cons_of_mem _ hx))
    · exact absurd h (hr (r, b) (by simp))
theorem ndS_ne (n : Nd) (F M : Int) : ∀ x ∈ ndS n F M, x.1 ≠ 0 := by intro x hx; simp [ndS] at hx; rcases hx with rfl | rfl | rfl | rfl | rfl | rfl | rfl <;> simp
theorem heap8 {T : Nat} (w : World) (g : Nat) {x0 x1 x2 x3 x4 x5 x6 x7 : Value} (v0 v1 v2 v3 v4 v5 v6 v7 : Value) (h : w.heap[g]? = some (.cells #[x0, x1, x2, x3, x4, x5, x6, x7] T (0, 0))) :
    ((((((((w.setCell ⟨g, 0, none⟩ v0).setCell ⟨g, 1, none⟩ v1).setCell ⟨g, 2, none⟩ v2).setCell ⟨g, 3, none⟩ v3).setCell ⟨g, 4, none⟩ v4).setCell ⟨g, 5, none⟩ v5).setCell ⟨g, 6, none⟩ v6).setCell ⟨g, 7, none⟩ v7).heap[g]? = some (.cells #[v0, v1, v2, v3, v4, v5, v6, v7] T (0, 0)) := by
  have a0 := heap_setCell_same w g 0 _ T v0 h
  have a1 := heap_setCell_same _ g 1 _ T v1 a0
  have a2 := heap_setCell_same _ g 2 _ T v2 a1
  have a3 := heap_setCell_same _ g 3 _ T v3 a2
  have a4 := heap_setCell_same _ g 4 _ T v4 a3
  have a5 := heap_setCell_same _ g 5 _ T v5 a4
  have a6 := heap_setCell_same _ g 6 _ T v6 a5
  have a7 := heap_setCell_same _ g 7 _ T v7 a6
  simpa using a7
theorem neq8 (w : World) (g : Nat) (v0 v1 v2 v3 v4 v5 v6 v7 : Value) (k : Nat) (hk : k ≠ g) :
    ((((((((w.setCell ⟨g, 0, none⟩ v0).setCell ⟨g, 1, none⟩ v1).setCell ⟨g, 2, none⟩ v2).setCell ⟨g, 3, none⟩ v3).setCell ⟨g, 4, none⟩ v4).setCell ⟨g, 5, none⟩ v5).setCell ⟨g, 6, none⟩ v6).setCell ⟨g, 7, none⟩ v7).heap[k]? = w.heap[k]? := by
  rw [neq_set _ g 7 v7 k hk, neq_set _ g 6 v6 k hk, neq_set _ g 5 v5 k hk, neq_set _ g 4 v4 k hk, neq_set _ g 3 v3 k hk, neq_set _ g 2 v2 k hk, neq_set _ g 1 v1 k hk, neq_set _ g 0 v0 k hk]
theorem keep8 {w0 w : World} (h : Keep w0 w) (g : Nat) (hg : w0.heap.size ≤ g) (v0 v1 v2 v3 v4 v5 v6 v7 : Value) :
    Keep w0 ((((((((w.setCell ⟨g, 0, none⟩ v0).setCell ⟨g, 1, none⟩ v1).setCell ⟨g, 2, none⟩ v2).setCell ⟨g, 3, none⟩ v3).setCell ⟨g, 4, none⟩ v4).setCell ⟨g, 5, none⟩ v5).setCell ⟨g, 6, none⟩ v6).setCell ⟨g, 7, none⟩ v7) :=
  (((((((h.setCell (p := ⟨g, 0, none⟩) hg v0).setCell (p := ⟨g, 1, none⟩) hg v1).setCell (p := ⟨g, 2, none⟩) hg v2).setCell (p := ⟨g, 3, none⟩) hg v3).setCell (p := ⟨g, 4, none⟩) hg v4).setCell (p := ⟨g, 5, none⟩) hg v5).setCell (p := ⟨g, 6, none⟩) hg v6).setCell (p := ⟨g, 7, none⟩) hg v7
theorem frozen8 {T : Nat} {w : World} {g : Nat} {cs : Array Value} (h : w.heap[g]? = some (.cells cs T (0, 0))) : w.frozen? ⟨g, 0, none⟩ = false ∧ w.frozen? ⟨g, 1, none⟩ = false ∧ w.frozen? ⟨g, 2, none⟩ = false ∧ w.frozen? ⟨g, 3, none⟩ = false ∧ w.frozen? ⟨g, 4, none⟩ = false ∧ w.frozen? ⟨g, 5, none⟩ = false ∧ w.frozen? ⟨g, 6, none⟩ = false ∧ w.frozen? ⟨g, 7, none⟩ = false :=
  ⟨frozen_of_row _ _ 0 _ T h, frozen_of_row _ _ 1 _ T h, frozen_of_row _ _ 2 _ T h, frozen_of_row _ _ 3 _ T h, frozen_of_row _ _ 4 _ T h, frozen_of_row _ _ 5 _ T h, frozen_of_row _ _ 6 _ T h, frozen_of_row _ _ 7 _ T h⟩
/-- A tree under way: its box, the answer's, the node's, the node's rules. -/
structure TIt (w wr : World) (out : Int) (na : Option Addr) (nc : Nat) (L : List Nd) (gn s : Nat) (F : Int) : Prop where
  kp : Keep w wr
  bt : wr.heap[w.heap.size + 1]? = some (.cells #[.int .i64 out, .slice na L.length nc] 48 (0, 0))
  br : wr.heap[w.heap.size + 1 + 1]? = some (.cells #[.int .i64 0, .int .i64 0, .int .i64 0] 58 (0, 0))
  bn : ∃ v0 v1 v2 v3 v4 v5 v6 v7, wr.heap[gn]? = some (.cells #[v0, v1, v2, v3, v4, v5, v6, v7] 81 (0, 0))
  rs : NRs wr s gn F (L.length : Int)
theorem TIt.keep {w wr w' : World} {out : Int} {na : Option Addr} {nc : Nat} {L : List Nd} {gn s : Nat} {F : Int} (h : TIt w wr out na nc L gn s F) (k : Keep wr w') : TIt w w' out na nc L gn s F := by
  obtain ⟨v0, v1, v2, v3, v4, v5, v6, v7, hv⟩ := h.bn
  exact ⟨h.kp.trans k, k.at h.bt, k.at h.br, ⟨v0, v1, v2, v3, v4, v5, v6, v7, k.at hv⟩, h.rs.keep k⟩
theorem TIt.node {w wr : World} {out : Int} {na : Option Addr} {nc : Nat} {L : List Nd} {gn s : Nat} {F : Int} (h : TIt w wr out na nc L gn s F) (hg : w.heap.size + 1 + 1 < gn) (hs : gn < s) (v0 v1 v2 v3 v4 v5 v6 v7 : Value) :
    TIt w ((((((((wr.setCell ⟨gn, 0, none⟩ v0).setCell ⟨gn, 1, none⟩ v1).setCell ⟨gn, 2, none⟩ v2).setCell ⟨gn, 3, none⟩ v3).setCell ⟨gn, 4, none⟩ v4).setCell ⟨gn, 5, none⟩ v5).setCell ⟨gn, 6, none⟩ v6).setCell ⟨gn, 7, none⟩ v7) out na nc L gn s F ∧
    ((((((((wr.setCell ⟨gn, 0, none⟩ v0).setCell ⟨gn, 1, none⟩ v1).setCell ⟨gn, 2, none⟩ v2).setCell ⟨gn, 3, none⟩ v3).setCell ⟨gn, 4, none⟩ v4).setCell ⟨gn, 5, none⟩ v5).setCell ⟨gn, 6, none⟩ v6).setCell ⟨gn, 7, none⟩ v7).heap[gn]? = some (.cells #[v0, v1, v2, v3, v4, v5, v6, v7] 81 (0, 0)) := by
  obtain ⟨x0, x1, x2, x3, x4, x5, x6, x7, hv⟩ := h.bn
  have e := neq8 wr gn v0 v1 v2 v3 v4 v5 v6 v7
  have hn := heap8 wr gn v0 v1 v2 v3 v4 v5 v6 v7 hv
  exact ⟨⟨keep8 h.kp gn (by omega) _ _ _ _ _ _ _ _, (e _ (by omega)).trans h.bt, (e _ (by omega)).trans h.br, ⟨_, _, _, _, _, _, _, _, hn⟩, h.rs.same (fun i h1 h2 => e _ (by omega))⟩, hn⟩
end Go.Proofs.YtinjikoocegooaaGreatDoor
set_option linter.unusedVariables false
set_option linter.unusedSimpArgs false
namespace Go.Proofs.YtinjikoocegooaaGreatDoor
open Go.RowKit Go.Shelf
attribute [local go_sem] run_store_func run_store_float
set_option maxRecDepth 100000 in
set_option maxHeartbeats 1500000 in
theorem ofTree_any (nm : ByteArray) (fa : Option Addr) (Fn cf : Nat) (N : Int) (ba : Option Addr) (bl cb : Nat) (ta : Option Addr) (tl ct : Nat) (out : Int) (na : Option Addr) (nc : Nat) (L : List Nd) (t : Int) (w : World) (hN : 0 ≤ N ∧ N ≤ 4611686018427387904) (hF : (Fn : Int) ≤ 4611686018427387904) (hL : L.length ≤ 1759218604441) (hr : RdN w na L) :
    Calls Tryz.prog 64 #[.agg (ev nm fa Fn cf N ba bl cb ta tl ct), .agg #[.int .i64 out, .slice na L.length nc], .int .i64 t] w fun e w' => e = .returned (bkV (trB out N Fn L t)) ∧ Keep w w' := by
  have HB : Hid (trB out N Fn L t = if (sel [(11, winB out 0 (N - 1)), (12, winB (L.length : Int) 1 8191)] t (-1)).1 = 0 then (if (tnF L Fn t L.length 0).1 = 0 then sel [(20, shE L == 0)] t (shI L : Int) else tnF L Fn t L.length 0) else sel [(11, winB out 0 (N - 1)), (12, winB (L.length : Int) 1 8191)] t (-1)) := rfl
  generalize trB out N Fn L t = B at HB ⊢
  obtain ⟨w1, hw1, k1, t1, s1⟩ := boxed w (ev nm fa Fn cf N ba bl cb ta tl ct) 26
  obtain ⟨w2, hw2, k2, t2, s2⟩ := boxed w1 #[.int .i64 out, .slice na L.length nc] 48
  obtain ⟨w3, hw3, k3, t3, s3⟩ := boxed w2 #[.int .i64 0, .int .i64 0, .int .i64 0] 58
  obtain ⟨w4, hw4, k4, t4, s4⟩ := boxed w3 #[.int .i64 11, .func (.func 88) #[] #[pv (w.heap.size + 1), pv w.heap.size], .int .i64 12, .func (.func 89) #[] #[pv (w.heap.size + 1)]] 101
  rw [s1] at t2 s2
  rw [s2] at t3 s3
  rw [s3] at t4 s4
  have k14 := k2.trans (k3.trans k4)
  have q1 := k14.at t1
  have q2 := (k3.trans k4).at t2
  have q3 := k4.at t3
  have kw4 := k1.trans k14
  have hR : RdR w4 (some ⟨w.heap.size + 1 + 1 + 1, 0, none⟩) [(11, 88, #[pv (w.heap.size + 1), pv w.heap.size]), (12, 89, #[pv (w.heap.size + 1)])] := rdR_of t4 (by
    intro j hj
    match j, hj with
    | 0, _ => exact ⟨rfl, rfl⟩
    | 1, _ => exact ⟨rfl, rfl⟩)
  have hFa := first_any (some ⟨w.heap.size + 1 + 1 + 1, 0, none⟩) 2 _ (bsl [winB out 0 (N - 1), winB (L.length : Int) 1 8191]) t (-1) w4 hR (by simp) (by
    intro j hj
    match j, hj with
    | 0, _ => exact tr1_ans q2 q1 hN
    | 1, _ => exact tr2_ans q2)
  have HE : Hid (fsB [(11, 88, #[pv (w.heap.size + 1), pv w.heap.size]), (12, 89, #[pv (w.heap.size + 1)])] (bsl [winB out 0 (N - 1), winB (L.length : Int) 1 8191]) t (-1) = sel [(11, winB out 0 (N - 1)), (12, winB (L.length : Int) 1 8191)] t (-1)) := rfl
  rw [HE.out] at hFa
  clear HE hR t1 t2 t3 t4
  have Hz : Hid ((sel [(11, winB out 0 (N - 1)), (12, winB (L.length : Int) 1 8191)] t (-1)).1 = 0 → sel [(11, winB out 0 (N - 1)), (12, winB (L.length : Int) 1 8191)] t (-1) = (0, 0, 0)) := fun h => sel_zero _ _ _ h (by intro x hx; simp at hx; rcases hx with rfl | rfl <;> simp)
  generalize sel [(11, winB out 0 (N - 1)), (12, winB (L.length : Int) 1 8191)] t (-1) = S at HB hFa Hz
  have kz : Keep w w := Keep.refl w
  by_cases hS : S.1 = 0
  · obtain rfl := Hz.out hS
    have HB1 : Hid (B = if (tnF L Fn t L.length 0).1 = 0 then sel [(20, shE L == 0)] t (shI L : Int) else tnF L Fn t L.length 0) := by unfold Hid; rw [HB.out, if_pos rfl]
    clear HB Hz hS
    change Calls Tryz.prog 54 _ w4 (fun e w' => e = .returned (.agg #[.int .i64 0, .int .i64 0, .int .i64 0]) ∧ Keep w4 w') at hFa
    go_enter Tryz.func64, Tryz.ntmps64
    go_wp2_with (first
      | rw [hw1] | rw [hw2] | rw [hw3] | rw [hw4]
      | (go_at_call 54; refine hFa.mono ?_; rintro e w5 ⟨rfl, k5⟩
         obtain ⟨w6, w7, hw6, hw7, k7, t7, y0, y1, y2, g0, g1, g2⟩ := boxB w5 (.int .i64 0) (.int .i64 0) (.int .i64 0)
         obtain ⟨c0, c1, c2, -, -, -⟩ := cells3 t7
         obtain ⟨w8, hw8, k8, t8, s8⟩ := boxed w7 #[.int .u8 0, .int .i64 0, .int .i64 0, .float .f64 0, .slice none 0 0, .int .u8 0, .int .i64 0, .int .i64 0] 81
         have k48 := k5.trans (k7.trans k8)
         obtain ⟨-, z1, -, -, -⟩ := cells5 (k48.at q1)
         obtain ⟨z2, z3, -, -⟩ := cells2 (k48.at q2)
         have hNR := nodeRules_any w7.heap.size (Fn : Int) (L.length : Int) w8
         rw [s8] at hNR)
      | (go_at_call 90; refine hNR.mono ?_; rintro e w9 ⟨rfl, k9, R9, s9⟩
         have I9 : TIt w w9 out na nc L w7.heap.size (w7.heap.size + 1) Fn := ⟨kw4.trans (k48.trans k9), k9.at (k48.at q2), k9.at (k48.at q3), ⟨_, _, _, _, _, _, _, _, k9.at t8⟩, R9⟩
         replace I9 : Hid _ := I9
         obtain ⟨z4, z5, -, -⟩ := cells2 (k9.at (k48.at q2))))
    have hg : w.heap.size + 1 + 1 < w7.heap.size := by have := k5.le; have := k7.le; omega
    have hgs : w7.heap.size < w7.heap.size + 1 := by omega
    replace hg : Hid _ := hg
    replace hgs : Hid _ := hgs
    obtain ⟨T, HT⟩ : ∃ T, Hid (T = tnF L Fn t L.length 0) := ⟨_, rfl⟩
    rw [← HT.out] at HB1
    clear y0 y1 y2 g0 g1 g2 c0 c1 c2 z1 z2 z3 z4 z5 t7 t8 R9 s9 hNR hFa
    go_loopw [35] (fun i wr => ∃ k : Nat, i = .int .i64 (k : Int) ∧ k ≤ L.length ∧ Hid (T = tnF L Fn t (L.length - k) k) ∧ Hid (TIt w wr out na nc L w7.heap.size (w7.heap.size + 1) Fn)) (fun i wr => L.length - (intOf i).toNat)
    case atStart => exact ⟨0, rfl, by omega, HT, I9⟩
    case round =>
      obtain ⟨k, rfl, hk, H, I⟩ := hrel
      by_cases hlt : k < L.length
      · have hltc : (k : Int) < (L.length : Int) := by omega
        obtain ⟨b, o, ca, cap, rfl, hA0⟩ := hr k hlt
        have hA := hA0.keep I.out.kp
        obtain ⟨v0, v1, v2, v3, v4, v5, v6, v7, hv⟩ := I.out.bn
        obtain ⟨f0, f1, f2, f3, f4, f5, f6, f7⟩ := frozen8 hv
        obtain ⟨e0, e1, e2, e3, e4, e5, e6, e7⟩ := cells8 hv
        obtain ⟨z4, z5, -, -⟩ := cells2 I.out.bt
        have H1 : Hid (tnF L Fn t (L.length - k) k = if (sel (ndS (L.getD k nd0) Fn (L.length : Int)) t (k : Int)).1 = 0 then tnF L Fn t (L.length - (k + 1)) (k + 1) else sel (ndS (L.getD k nd0) Fn (L.length : Int)) t (k : Int)) := by
          rw [show L.length - k = (L.length - (k + 1)) + 1 by omega, tnF]; rfl
        have HK : Hid (k < L.length) := hlt
        clear hlt
        generalize L.getD k nd0 = n at hA H1 hA0
        have hrd0 := hA0.rd
        clear hA0
        obtain ⟨a0, a1, a2, a3, a4, a5, a6, a7, hrd, hcp, hsz, hok⟩ := hA
        obtain ⟨IA, nA⟩ := I.out.node hg.out hgs.out (.int .u8 n.kd) (.int .i64 n.vl) (.int .i64 n.ft) (.float .f64 n.th) (.slice ca n.cs.length cap) (.int .u8 n.ms) (.int .i64 n.lf) (.int .i64 n.rt)
        obtain ⟨wA, hwA⟩ : ∃ wA, ((((((((wr.setCell ⟨w7.heap.size, 0, none⟩ (.int .u8 n.kd)).setCell ⟨w7.heap.size, 1, none⟩ (.int .i64 n.vl)).setCell ⟨w7.heap.size, 2, none⟩ (.int .i64 n.ft)).setCell ⟨w7.heap.size, 3, none⟩ (.float .f64 n.th)).setCell ⟨w7.heap.size, 4, none⟩ (.slice ca n.cs.length cap)).setCell ⟨w7.heap.size, 5, none⟩ (.int .u8 n.ms)).setCell ⟨w7.heap.size, 6, none⟩ (.int .i64 n.lf)).setCell ⟨w7.heap.size, 7, none⟩ (.int .i64 n.rt)) = wA := ⟨_, rfl⟩
        rw [hwA] at IA nA
        have hrA : RdI wA ca n.cs := hrd0.keep IA.kp
        have hFi := IA.rs.first nA hrA hsz ⟨by omega, hF⟩ ⟨by omega, by omega⟩ t (k : Int)
        have Hz : Hid ((sel (ndS n Fn (L.length : Int)) t (k : Int)).1 = 0 → sel (ndS n Fn (L.length : Int)) t (k : Int) = (0, 0, 0)) := fun h => sel_zero _ _ _ h (ndS_ne _ _ _)
        generalize sel (ndS n Fn (L.length : Int)) t (k : Int) = S at H1 hFi Hz
        by_cases hS : S.1 = 0
        · obtain rfl := Hz.out hS
          clear hS Hz
          change Calls Tryz.prog 54 _ wA (fun e w' => e = .returned (.agg #[.int .i64 0, .int .i64 0, .int .i64 0]) ∧ Keep wA w') at hFi
          go_wp2_with (first
            | (go_at_call 54; refine hFi.mono ?_; rintro e wB ⟨rfl, kB⟩
               obtain ⟨wC, wD, hwC, hwD, kD, tD, y0, y1, y2, g0, g1, g2⟩ := boxB wB (.int .i64 0) (.int .i64 0) (.int .i64 0)
               obtain ⟨c0, c1, c2, -, -, -⟩ := cells3 tD))
          go_roundw
          case rel => exact ⟨k + 1, by go_num, by have := HK.out; omega, by unfold Hid; rw [H.out, H1.out, if_pos trivial], (IA.keep kB).keep kD⟩
          case measure => have := HK.out; simp [intOf]; omega
        · obtain ⟨x0, x1, x2⟩ := S
          have hSc : (x0 != 0) = true := by simpa using hS
          have IB := IA
          go_wp2_with (first
            | (go_at_call 54; refine hFi.mono ?_; rintro e wB ⟨rfl, kB⟩
               obtain ⟨wC, wD, hwC, hwD, kD, tD, y0, y1, y2, g0, g1, g2⟩ := boxB wB (.int .i64 x0) (.int .i64 x1) (.int .i64 x2)
               obtain ⟨c0, c1, c2, -, -, -⟩ := cells3 tD
               have ID := (IB.keep kB).keep kD
               obtain ⟨d0, d1, d2, p0, p1, p2⟩ := cells3 ID.br))
          have h := heap3 wD (w.heap.size + 1 + 1) (.int .i64 x0) (.int .i64 x1) (.int .i64 x2) ID.br
          have kk := keep3 ID.kp (w.heap.size + 1 + 1) (by omega) (.int .i64 x0) (.int .i64 x1) (.int .i64 x2)
          refine bodyPost_ret (ret_bk rfl _ _ (w.heap.size + 1 + 1) _ _ _ rfl h) rfl ⟨?_, kk⟩
          have hT : T = (x0, x1, x2) := by rw [H.out, H1.out, if_neg hS]
          rw [HB1.out, hT, if_neg hS]
      · have hltc : ¬ (k : Int) < (L.length : Int) := by omega
        have hT : T = (0, 0, 0) := by rw [H.out, show L.length - k = 0 by omega]; rfl
        have HB2 : Hid (B = sel [(20, shE L == 0)] t (shI L : Int)) := by unfold Hid; rw [HB1.out, hT, if_pos rfl]
        obtain ⟨z4, z5, -, -⟩ := cells2 I.out.bt
        have hSh := Shape_any wr na nc out L (by omega) (hr.keep I.out.kp)
        generalize shE L = z at hSh HB2
        generalize (shI L : Nat) = y at hSh HB2
        clear hlt hT
        go_wp2_with (first
          | (go_at_call 43; refine hSh.mono ?_; rintro e wB ⟨rfl, kB⟩
             obtain ⟨wC, hwC, kC, tC, sC⟩ := boxed wB #[.int .i64 z] 38
             obtain ⟨wD, hwD, kD, tD, sD⟩ := boxed wC #[.int .i64 20, .func (.func 91) #[] #[pv wB.heap.size]] 101
             rw [sC] at tD sD
             have hR : RdR wD (some ⟨wB.heap.size + 1, 0, none⟩) [(20, 91, #[pv wB.heap.size])] := rdR_of tD (by
               intro j hj
               match j, hj with
               | 0, _ => exact ⟨rfl, rfl⟩)
             have hFi := first_any (some ⟨wB.heap.size + 1, 0, none⟩) 1 _ (bsl [z == 0]) t (y : Int) wD hR (by simp) (by
               intro j hj
               match j, hj with
               | 0, _ => exact tr3_ans (kD.at tC))
             have HE : Hid (fsB [(20, 91, #[pv wB.heap.size])] (bsl [z == 0]) t (y : Int) = sel [(20, z == 0)] t (y : Int)) := rfl
             rw [HE.out, ← HB2.out] at hFi
             obtain ⟨x0, x1, x2⟩ := B
             have ID := ((I.out.keep kB).keep kC).keep kD
             clear HE hR)
          | (go_at_call 54; refine hFi.mono ?_; rintro e wE ⟨rfl, kE⟩
             have IE := ID.keep kE
             obtain ⟨d0, d1, d2, p0, p1, p2⟩ := cells3 IE.br))
        have h := heap3 wE (w.heap.size + 1 + 1) (.int .i64 x0) (.int .i64 x1) (.int .i64 x2) IE.br
        have kk := keep3 IE.kp (w.heap.size + 1 + 1) (by omega) (.int .i64 x0) (.int .i64 x1) (.int .i64 x2)
        exact bodyPost_ret (ret_bk rfl _ _ (w.heap.size + 1 + 1) _ _ _ rfl h) rfl ⟨rfl, kk⟩
  · obtain ⟨x0, x1, x2⟩ := S
    have HB1 : Hid (B = (x0, x1, x2)) := by unfold Hid; rw [HB.out, if_neg hS]
    have hSc : (x0 != 0) = true := by simpa using hS
    clear HB Hz hS
    go_enter Tryz.func64, Tryz.ntmps64
    go_wp2_with (first
      | rw [hw1] | rw [hw2] | rw [hw3] | rw [hw4]
      | (go_at_call 54; refine hFa.mono ?_; rintro e w5 ⟨rfl, k5⟩
         obtain ⟨w6, w7, hw6, hw7, k7, t7, y0, y1, y2, g0, g1, g2⟩ := boxB w5 (.int .i64 x0) (.int .i64 x1) (.int .i64 x2)
         obtain ⟨c0, c1, c2, -, -, -⟩ := cells3 t7
         have q7 := (k5.trans k7).at q3
         obtain ⟨d0, d1, d2, p0, p1, p2⟩ := cells3 q7))
    have h := heap3 w7 (w.heap.size + 1 + 1) (.int .i64 x0) (.int .i64 x1) (.int .i64 x2) q7
    have kk := keep3 (kw4.trans (k5.trans k7)) (w.heap.size + 1 + 1) (by omega) (.int .i64 x0) (.int .i64 x1) (.int .i64 x2)
    refine bodyPost_ret (ret_bk rfl _ _ (w.heap.size + 1 + 1) _ _ _ rfl h) rfl ⟨?_, kk⟩
    rw [HB1.out]
end Go.Proofs.YtinjikoocegooaaGreatDoor
set_option linter.unusedVariables false
set_option linter.unusedSimpArgs false
namespace Go.Proofs.YtinjikoocegooaaGreatDoor
open Go.RowKit Go.Shelf
attribute [local go_sem] run_store_func run_store_float
theorem tnF_zero {L : List Nd} {F t : Int} : ∀ (f k : Nat), (tnF L F t f k).1 = 0 → tnF L F t f k = (0, 0, 0)
  | 0, k, _ => rfl
  | f + 1, k, h => by
    rw [tnF] at h ⊢
    split at h
    · rename_i hs; rw [if_pos hs]; exact tnF_zero f (k + 1) h
    · rename_i hs; exact absurd h hs
theorem trB_zero {out N F : Int} {L : List Nd} {t : Int} (h : (trB out N F L t).1 = 0) : trB out N F L t = (0, 0, 0) := by
  unfold trB at h ⊢
  split at h
  · rename_i h1
    rw [if_pos h1]
    split at h
    · rename_i h2; rw [if_pos h2]; exact sel_zero _ _ _ h (by intro x hx; simp at hx; rcases hx with rfl; simp)
    · rename_i h2; exact absurd h h2
  · rename_i h1; exact absurd h h1
/-- The trees' rules, one by one. -/
def tsF (N F : Int) (ts : List (Int × List Nd)) : Nat → Nat → Bk
  | 0, _ => (0, 0, 0)
  | f + 1, k => if (trB (ts.getD k (0, [])).1 N F (ts.getD k (0, [])).2 (k : Int)).1 = 0 then tsF N F ts f (k + 1) else trB (ts.getD k (0, [])).1 N F (ts.getD k (0, [])).2 (k : Int)
def tsB (N F : Int) (ts : List (Int × List Nd)) : Bk := tsF N F ts ts.length 0
set_option maxRecDepth 100000 in
set_option maxHeartbeats 2000000 in
theorem ofTrees_any (nm : ByteArray) (fa : Option Addr) (Fn cf : Nat) (N : Int) (ba : Option Addr) (bl cb : Nat) (ta : Option Addr) (ts : List (Int × List Nd)) (ct : Nat) (w : World) (hN : 0 ≤ N ∧ N ≤ 4611686018427387904) (hF : (Fn : Int) ≤ 4611686018427387904) (htl : ts.length ≤ 4398046511104) (hts : ∀ j, j < ts.length → (ts.getD j (0, [])).2.length ≤ 1759218604441) (ht : RdT w ta ts) :
    Calls Tryz.prog 39 #[.agg (ev nm fa Fn cf N ba bl cb ta ts.length ct)] w fun e w' => e = .returned (bkV (tsB N Fn ts)) ∧ Keep w w' := by
  obtain ⟨B, HB⟩ : ∃ B, Hid (B = tsF N Fn ts ts.length 0) := ⟨_, rfl⟩
  have HG : Hid (tsB N Fn ts = B) := HB.out.symm
  rw [HG.out]
  clear HG
  obtain ⟨w1, hw1, k1, t1, s1⟩ := boxed w (ev nm fa Fn cf N ba bl cb ta ts.length ct) 26
  obtain ⟨w2, hw2, k2, t2, s2⟩ := boxed w1 #[.int .i64 0, .int .i64 0, .int .i64 0] 58
  rw [s1] at t2 s2
  have kw2 := k1.trans k2
  have q1 := k2.at t1
  obtain ⟨z0, z1, z2, z3, z4⟩ := cells5 q1
  go_enter Tryz.func39, Tryz.ntmps39
  go_wp2_with (first | rw [hw1] | rw [hw2])
  clear z0 z1 z2 z3 z4
  go_loopw [9] (fun i wr => ∃ k : Nat, i = .int .i64 (k : Int) ∧ k ≤ ts.length ∧ Hid (B = tsF N Fn ts (ts.length - k) k) ∧ Keep w2 wr) (fun i wr => ts.length - (intOf i).toNat)
  case atStart => exact ⟨0, rfl, by omega, HB, Keep.refl _⟩
  case round =>
    obtain ⟨k, rfl, hk, H, kr⟩ := hrel
    by_cases hlt : k < ts.length
    · have hltc : (k : Int) < (ts.length : Int) := by omega
      have hl := hts k hlt
      obtain ⟨b, o, na, nc, rfl, x0, x1, hrn, hcp⟩ := ht k hlt
      have kwr := kw2.trans kr
      replace x0 := kwr.cell x0
      replace x1 := kwr.cell x1
      have H1 : Hid (tsF N Fn ts (ts.length - k) k = if (trB (ts.getD k (0, [])).1 N Fn (ts.getD k (0, [])).2 (k : Int)).1 = 0 then tsF N Fn ts (ts.length - (k + 1)) (k + 1) else trB (ts.getD k (0, [])).1 N Fn (ts.getD k (0, [])).2 (k : Int)) := by
        rw [show ts.length - k = (ts.length - (k + 1)) + 1 by omega, tsF]; rfl
      have HK : Hid (k < ts.length) := hlt
      clear hlt hcp
      generalize ts.getD k (0, []) = tk at x0 x1 hrn H1 hl
      obtain ⟨out, L⟩ := tk
      simp only at x0 x1 hrn H1 hl
      obtain ⟨w3, hw3, k3, t3, s3⟩ := boxed wr #[.int .i64 out, .slice na L.length nc] 48
      obtain ⟨y0, y1, -, -⟩ := cells2 t3
      obtain ⟨z0, z1, z2, z3, z4⟩ := cells5 (k3.at (kr.at q1))
      have hT := ofTree_any nm fa Fn cf N ba bl cb (some ⟨b, o, none⟩) ts.length ct out na nc L (k : Int) w3 hN hF hl (hrn.keep (kwr.trans k3))
      have Hz : Hid ((trB out N Fn L (k : Int)).1 = 0 → trB out N Fn L (k : Int) = (0, 0, 0)) := trB_zero
      generalize trB out N Fn L (k : Int) = S at hT H1 Hz
      by_cases hS : S.1 = 0
      · obtain rfl := Hz.out hS
        clear hS Hz
        change Calls Tryz.prog 64 _ w3 (fun e w' => e = .returned (.agg #[.int .i64 0, .int .i64 0, .int .i64 0]) ∧ Keep w3 w') at hT
        go_wp2_with (first
          | (go_at_call 64; refine hT.mono ?_; rintro e wB ⟨rfl, kB⟩
             obtain ⟨wC, wD, hwC, hwD, kD, tD, a0, a1, a2, g0, g1, g2⟩ := boxB wB (.int .i64 0) (.int .i64 0) (.int .i64 0)
             obtain ⟨c0, c1, c2, -, -, -⟩ := cells3 tD))
        go_roundw
        case rel => exact ⟨k + 1, by go_num, by have := HK.out; omega, by unfold Hid; rw [H.out, H1.out, if_pos trivial], kr.trans (k3.trans (kB.trans kD))⟩
        case measure => have := HK.out; simp [intOf]; omega
      · obtain ⟨e0, e1, e2⟩ := S
        have hSc : (e0 != 0) = true := by simpa using hS
        have H2 : Hid (B = (e0, e1, e2)) := by unfold Hid; rw [H.out, H1.out, if_neg hS]
        clear hS Hz
        go_wp2_with (first
          | (go_at_call 64; refine hT.mono ?_; rintro e wB ⟨rfl, kB⟩
             obtain ⟨wC, wD, hwC, hwD, kD, tD, a0, a1, a2, g0, g1, g2⟩ := boxB wB (.int .i64 e0) (.int .i64 e1) (.int .i64 e2)
             obtain ⟨c0, c1, c2, -, -, -⟩ := cells3 tD
             have k2D := kr.trans (k3.trans (kB.trans kD))
             have qD := k2D.at t2
             obtain ⟨d0, d1, d2, p0, p1, p2⟩ := cells3 qD))
        have h := heap3 wD (w.heap.size + 1) (.int .i64 e0) (.int .i64 e1) (.int .i64 e2) qD
        have kk := keep3 (kw2.trans k2D) (w.heap.size + 1) (by omega) (.int .i64 e0) (.int .i64 e1) (.int .i64 e2)
        refine bodyPost_ret (ret_bk rfl _ _ (w.heap.size + 1) _ _ _ rfl h) rfl ⟨?_, kk⟩
        rw [H2.out]
    · have hltc : ¬ (k : Int) < (ts.length : Int) := by omega
      have H1 : Hid (B = (0, 0, 0)) := by unfold Hid; rw [H.out, show ts.length - k = 0 by omega]; rfl
      have q2 := kr.at t2
      obtain ⟨c0, c1, c2, f0, f1, f2⟩ := cells3 q2
      clear hlt
      go_wp2_with fail
      have h := heap3 wr (w.heap.size + 1) (.int .i64 0) (.int .i64 0) (.int .i64 0) q2
      have kk := keep3 (kw2.trans kr) (w.heap.size + 1) (by omega) (.int .i64 0) (.int .i64 0) (.int .i64 0)
      refine bodyPost_ret (ret_bk rfl _ _ (w.heap.size + 1) _ _ _ rfl h) rfl ⟨?_, kk⟩
      rw [H1.out]
end Go.Proofs.YtinjikoocegooaaGreatDoor
