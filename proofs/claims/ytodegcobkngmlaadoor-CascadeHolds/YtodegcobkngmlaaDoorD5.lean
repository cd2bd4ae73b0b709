import Derived.Test.YtodegcobkngmlaaDoorProg
import Derived.Test.YtodegcobkngmlaaDoorD4
import Derived.Test.YtodegcobkngmlaaDoorYU1
import Derived.WalkKit
import Derived.WalkSpells
import Derived.WalkLawsBesides
import Derived.Deep.Draws
import Derived.Deep.QuietTactic
import Derived.BigQuiet
import Derived.Laws.Externs
import Derived.Laws.CopyOwn
import Derived.Shelf.Abstract
import Derived.Deep.RegionLaw
import Derived.BigRegion
import Derived.Deep.RegionHeld3
import Derived.RangeFuncBox
import Derived.RangeFuncLeaves
import Derived.RangeFuncCalls
import Derived.RangeFuncRecord
import Derived.Below
import Derived.OwnWalkIn
import Derived.TacticsInMore
import Derived.LoopNIn
import Derived.LoopIn
import Derived.Sort.LoopGhostIn
import Derived.Deep.RegionWith
import Derived.Stop.RegionWithIn
set_option linter.unusedVariables false
set_option linter.unusedSimpArgs false
namespace Go.Proofs.YtodegcobkngmlaaDoor
open Go.RowKit Go.Shelf
attribute [local go_sem] run_store_func run_store_float
/-- The nodes' rules, node by node. -/
def tnF (L : List Nd) (F : Int) (t : Int) : Nat → Nat → Bk
  | 0, _ => (0, 0, 0)
  | f + 1, k => if (sel (ndS (L.getD k nd0) F (L.length : Int)) t (k : Int)).1 = 0 then tnF L F t f (k + 1) else sel (ndS (L.getD k nd0) F (L.length : Int)) t (k : Int)
/-- A tree's rules. -/
def trB (out N F : Int) (L : List Nd) (t : Int) : Bk :=
  if (sel [(11, winB out 0 (N - 1)), (12, winB (L.length : Int) 1 8191)] t (-1)).1 = 0 then (if (tnF L F t L.length 0).1 = 0 then sel [(20, shE L == 0)] t (shI L : Int) else tnF L F t L.length 0) else sel [(11, winB out 0 (N - 1)), (12, winB (L.length : Int) 1 8191)] t (-1)
theorem sel_zero : ∀ (l : List (Int × Bool)) (t n : Int), (sel l t n).1 = 0 → (∀ x ∈ l, x.1 ≠ 0) → sel l t n = (0, 0, 0)
  | [], t, n, _, _ => rfl
  | (r, b) :: l, t, n, h, hr => by
    rw [sel] at h ⊢
    split at h
    · rename_i hb; rw [if_pos hb]; exact sel_zero l t n h (fun x hx => hr x (List.mem_cons_of_mem _ hx))
    · exact absurd h (hr (r, b) (by simp))
theorem ndS_ne (n : Nd) (F M : Int) : ∀ x ∈ ndS n F M, x.1 ≠ 0 := by intro x hx; simp [ndS] at hx; rcases hx with rfl | rfl | rfl | rfl | rfl | rfl | rfl <;> simp
theorem heap8 {T : Nat} (w : World) (g : Nat) {x0 x1 x2 x3 x4 x5 x6 x7 : Value} (v0 v1 v2 v3 v4 v5 v6 v7 : Value) (h : w.heap[g]? = some (.cells #[x0, x1, x2, x3, x4, x5, x6, x7] T (0, 0))) :
    ((((((((w.setCell ⟨g, 0, none⟩ v0).setCell ⟨g, 1, none⟩ v1).setCell ⟨g, 2, none⟩ v2).setCell ⟨g, 3, none⟩ v3).setCell ⟨g, 4, none⟩ v4).setCell ⟨g, 5, none⟩ v5).setCell ⟨g, 6, none⟩ v6).setCell ⟨g, 7, none⟩ v7).heap[g]? = some (.cells #[v0, v1, v2, v3, v4, v5, v6, v7] T (0, 0)) := by
  have a0 := heap_setCell_same w g 0 _ T v0 h
  have a1 := heap_setCell_same _ g 1 _ T v1 a0
  have a2 := heap_setCell_same _ g 2 _ T v2 a1
  have a3 := heap_setCell_same _ g 3 _ T v3 a2
  have a4 := heap_setCell_same _ g 4 _ T v4 a3
  have a5 := heap_setCell_same _ g 5 _ T v5 a4
  have a6 := heap_setCell_same _ g 6 _ T v6 a5
  have a7 := heap_setCell_same _ g 7 _ T v7 a6
  simpa using a7
theorem neq8 (w : World) (g : Nat) (v0 v1 v2 v3 v4 v5 v6 v7 : Value) (k : Nat) (hk : k ≠ g) :
    ((((((((w.setCell ⟨g, 0, none⟩ v0).setCell ⟨g, 1, none⟩ v1).setCell ⟨g, 2, none⟩ v2).setCell ⟨g, 3, none⟩ v3).setCell ⟨g, 4, none⟩ v4).setCell ⟨g, 5, none⟩ v5).setCell ⟨g, 6, none⟩ v6).setCell ⟨g, 7, none⟩ v7).heap[k]? = w.heap[k]? := by
  rw [neq_set _ g 7 v7 k hk, neq_set _ g 6 v6 k hk, neq_set _ g 5 v5 k hk, neq_set _ g 4 v4 k hk, neq_set _ g 3 v3 k hk, neq_set _ g 2 v2 k hk, neq_set _ g 1 v1 k hk, neq_set _ g 0 v0 k hk]
theorem keep8 {w0 w : World} (h : Keep w0 w) (g : Nat) (hg : w0.heap.size ≤ g) (v0 v1 v2 v3 v4 v5 v6 v7 : Value) :
    Keep w0 ((((((((w.setCell ⟨g, 0, none⟩ v0).setCell ⟨g, 1, none⟩ v1).setCell ⟨g, 2, none⟩ v2).setCell ⟨g, 3, none⟩ v3).setCell ⟨g, 4, none⟩ v4).setCell ⟨g, 5, none⟩ v5).setCell ⟨g, 6, none⟩ v6).setCell ⟨g, 7, none⟩ v7) :=
  (((((((h.setCell (p := ⟨g, 0, none⟩) hg v0).setCell (p := ⟨g, 1, none⟩) hg v1).setCell (p := ⟨g, 2, none⟩) hg v2).setCell (p := ⟨g, 3, none⟩) hg v3).setCell (p := ⟨g, 4, none⟩) hg v4).setCell (p := ⟨g, 5, none⟩) hg v5).setCell (p := ⟨g, 6, none⟩) hg v6).setCell (p := ⟨g, 7, none⟩) hg v7
theorem frozen8 {T : Nat} {w : World} {g : Nat} {cs : Array Value} (h : w.heap[g]? = some (.cells cs T (0, 0))) : w.frozen? ⟨g, 0, none⟩ = false ∧ w.frozen? ⟨g, 1, none⟩ = false ∧ w.frozen? ⟨g, 2, none⟩ = false ∧ w.frozen? ⟨g, 3, none⟩ = false ∧ w.frozen? ⟨g, 4, none⟩ = false ∧ w.frozen? ⟨g, 5, none⟩ = false ∧ w.frozen? ⟨g, 6, none⟩ = false ∧ w.frozen? ⟨g, 7, none⟩ = false :=
  ⟨frozen_of_row _ _ 0 _ T h, frozen_of_row _ _ 1 _ T h, frozen_of_row _ _ 2 _ T h, frozen_of_row _ _ 3 _ T h, frozen_of_row _ _ 4 _ T h, frozen_of_row _ _ 5 _ T h, frozen_of_row _ _ 6 _ T h, frozen_of_row _ _ 7 _ T h⟩
/-- A tree under way: its box, the answer's, the node's, the node's rules. -/
structure TIt (w wr : World) (out : Int) (na : Option Addr) (nc : Nat) (L : List Nd) (gn s : Nat) (F : Int) : Prop where
  kp : Keep w wr
  bt : wr.heap[w.heap.size + 1]? = some (.cells #[.int .i64 out, .slice na L.length nc] 46 (0, 0))
  br : wr.heap[w.heap.size + 1 + 1]? = some (.cells #[.int .i64 0, .int .i64 0, .int .i64 0] 54 (0, 0))
  bn : ∃ v0 v1 v2 v3 v4 v5 v6 v7, wr.heap[gn]? = some (.cells #[v0, v1, v2, v3, v4, v5, v6, v7] 67 (0, 0))
  rs : NRs wr s gn F (L.length : Int)
theorem TIt.keep {w wr w' : World} {out : Int} {na : Option Addr} {nc : Nat} {L : List Nd} {gn s : Nat} {F : Int} (h : TIt w wr out na nc L gn s F) (k : Keep wr w') : TIt w w' out na nc L gn s F := by
  obtain ⟨v0, v1, v2, v3, v4, v5, v6, v7, hv⟩ := h.bn
  exact ⟨h.kp.trans k, k.at h.bt, k.at h.br, ⟨v0, v1, v2, v3, v4, v5, v6, v7, k.at hv⟩, h.rs.keep k⟩
theorem TIt.node {w wr : World} {out : Int} {na : Option Addr} {nc : Nat} {L : List Nd} {gn s : Nat} {F : Int} (h : TIt w wr out na nc L gn s F) (hg : w.heap.size + 1 + 1 < gn) (hs : gn < s) (v0 v1 v2 v3 v4 v5 v6 v7 : Value) :
    TIt w ((((((((wr.setCell ⟨gn, 0, none⟩ v0).setCell ⟨gn, 1, none⟩ v1).setCell ⟨gn, 2, none⟩ v2).setCell ⟨gn, 3, none⟩ v3).setCell ⟨gn, 4, none⟩ v4).setCell ⟨gn, 5, none⟩ v5).setCell ⟨gn, 6, none⟩ v6).setCell ⟨gn, 7, none⟩ v7) out na nc L gn s F ∧
    ((((((((wr.setCell ⟨gn, 0, none⟩ v0).setCell ⟨gn, 1, none⟩ v1).setCell ⟨gn, 2, none⟩ v2).setCell ⟨gn, 3, none⟩ v3).setCell ⟨gn, 4, none⟩ v4).setCell ⟨gn, 5, none⟩ v5).setCell ⟨gn, 6, none⟩ v6).setCell ⟨gn, 7, none⟩ v7).heap[gn]? = some (.cells #[v0, v1, v2, v3, v4, v5, v6, v7] 67 (0, 0)) := by
  obtain ⟨x0, x1, x2, x3, x4, x5, x6, x7, hv⟩ := h.bn
  have e := neq8 wr gn v0 v1 v2 v3 v4 v5 v6 v7
  have hn := heap8 wr gn v0 v1 v2 v3 v4 v5 v6 v7 hv
  exact ⟨⟨keep8 h.kp gn (by omega) _ _ _ _ _ _ _ _, (e _ (by omega)).trans h.bt, (e _ (by omega)).trans h.br, ⟨_, _, _, _, _, _, _, _, hn⟩, h.rs.same (fun i h1 h2 => e _ (by omega))⟩, hn⟩
end Go.Proofs.YtodegcobkngmlaaDoor
