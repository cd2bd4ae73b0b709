import Derived.Test.YtodegcobkngmlaaDoorProg
import Derived.Test.YtodegcobkngmlaaDoorF1
import Derived.Test.YtodegcobkngmlaaDoorN2
import Derived.WalkKit
import Derived.WalkSpells
import Derived.WalkLawsBesides
import Derived.Deep.Draws
import Derived.Deep.QuietTactic
import Derived.BigQuiet
import Derived.Laws.Externs
import Derived.Laws.CopyOwn
import Derived.Shelf.Abstract
import Derived.Deep.RegionLaw
import Derived.BigRegion
import Derived.Deep.RegionHeld3
set_option linter.unusedVariables false
set_option linter.unusedSimpArgs false
namespace Go.Proofs.YtodegcobkngmlaaDoor
open Go.RowKit Go.Shelf
/-- Does a number lie within? -/
def winB (n lo hi : Int) : Bool := decide (lo ≤ n) && decide (n ≤ hi)
theorem within_any (n lo hi : Int) (w : World) : Calls Tryd.prog 41 #[.int .i64 n, .int .i64 lo, .int .i64 hi] w fun e w' => e = .returned (.bool (winB n lo hi)) ∧ w' = w := by
  have H : Hid (winB n lo hi = (decide (lo ≤ n) && decide (n ≤ hi))) := rfl
  by_cases h : lo ≤ n
  · have hd : decide (lo ≤ n) = true := decide_eq_true h
    rw [hd] at H
    clear h
    go_enter Tryd.func41, Tryd.ntmps41
    go_wp2_with fail
    go_ret
    exact ⟨by rw [H.out, Bool.true_and]; rfl, rfl⟩
  · have hd : decide (lo ≤ n) = false := decide_eq_false h
    rw [hd] at H
    clear h
    go_enter Tryd.func41, Tryd.ntmps41
    go_wp2_with fail
    go_ret
    exact ⟨by rw [H.out, Bool.false_and]; rfl, rfl⟩
/-- Rules that lie in a block. -/
theorem rdR_of {w : World} {b : Nat} {cs : Array Value} {R : List Rl} (h : w.heap[b]? = some (.cells cs 92 (0, 0)))
    (hc : ∀ j, j < R.length → cs[j * 2]? = some (.int .i64 (R.getD j rl0).1) ∧ cs[j * 2 + 1]? = some (.func (.func (R.getD j rl0).2.1) #[] (R.getD j rl0).2.2)) : RdR w (some ⟨b, 0, none⟩) R := by
  intro j hj
  obtain ⟨h1, h2⟩ := hc j hj
  refine ⟨b, 0, rfl, ?_, ?_⟩
  · rw [Nat.zero_add, cell_of_row _ _ _ _ 92 (0, 0) h]; exact h1
  · rw [Nat.zero_add, cell_of_row _ _ _ _ 92 (0, 0) h]; exact h2
abbrev pv (g : Nat) : Value := .pointer (some ⟨g, 0, none⟩)
theorem hd1_ans {w : World} {g : Nat} {nm : ByteArray} {v1 v2 v3 v4 : Value} (h : w.heap[g]? = some (.cells #[.string nm, v1, v2, v3, v4] 26 (0, 0))) (hT : Kt w) (hs : nm.size ≤ 281474976710656) : Ans w (1, 38, #[pv g]) (nameB nm) := by
  refine ⟨fun wx => by kernel_rfl, fun wx k => ?_⟩
  obtain ⟨c0, -, -, -, -⟩ := cells5 (k.at h)
  have N := Name_any nm wx (hT.keep k) hs
  show Calls Tryd.prog 38 #[.pointer (some ⟨g, 0, none⟩)] wx _
  go_enter Tryd.func38, Tryd.ntmps38
  go_wp2_with (go_at_call 39; refine N.mono ?_; rintro e w0 ⟨rfl, rfl⟩)
  go_ret
  exact ⟨rfl, Keep.refl _⟩
theorem hd2_ans {w : World} {g F cf : Nat} {fa : Option Addr} {v0 v2 v3 v4 : Value} (h : w.heap[g]? = some (.cells #[v0, .slice fa F cf, v2, v3, v4] 26 (0, 0))) : Ans w (2, 40, #[pv g]) (winB F 1 65536) := by
  refine ⟨fun wx => by kernel_rfl, fun wx k => ?_⟩
  obtain ⟨-, c1, -, -, -⟩ := cells5 (k.at h)
  show Calls Tryd.prog 40 #[.pointer (some ⟨g, 0, none⟩)] wx _
  go_enter Tryd.func40, Tryd.ntmps40
  go_wp2_with (go_at_call 41; refine (within_any _ _ _ _).mono ?_; rintro e w0 ⟨rfl, rfl⟩)
  go_ret
  exact ⟨rfl, Keep.refl _⟩
theorem ct1_ans {w : World} {g : Nat} {N : Int} {v0 v1 v3 v4 : Value} (h : w.heap[g]? = some (.cells #[v0, v1, .int .i64 N, v3, v4] 26 (0, 0))) : Ans w (5, 44, #[pv g]) (winB N 1 64) := by
  refine ⟨fun wx => by kernel_rfl, fun wx k => ?_⟩
  obtain ⟨-, -, c2, -, -⟩ := cells5 (k.at h)
  show Calls Tryd.prog 44 #[.pointer (some ⟨g, 0, none⟩)] wx _
  go_enter Tryd.func44, Tryd.ntmps44
  go_wp2_with (go_at_call 41; refine (within_any _ _ _ _).mono ?_; rintro e w0 ⟨rfl, rfl⟩)
  go_ret
  exact ⟨rfl, Keep.refl _⟩
theorem ct2_ans {w : World} {g bl cb : Nat} {ba : Option Addr} {N : Int} {v0 v1 v4 : Value} (h : w.heap[g]? = some (.cells #[v0, v1, .int .i64 N, .slice ba bl cb, v4] 26 (0, 0))) : Ans w (6, 45, #[pv g]) ((bl : Int) == N) := by
  refine ⟨fun wx => by kernel_rfl, fun wx k => ?_⟩
  obtain ⟨-, -, c2, c3, -⟩ := cells5 (k.at h)
  show Calls Tryd.prog 45 #[.pointer (some ⟨g, 0, none⟩)] wx _
  go_enter Tryd.func45, Tryd.ntmps45
  go_wp2_with fail
  go_ret
  exact ⟨rfl, Keep.refl _⟩
theorem ct3_ans {w : World} {g tl ct : Nat} {ta : Option Addr} {v0 v1 v2 v3 : Value} (h : w.heap[g]? = some (.cells #[v0, v1, v2, v3, .slice ta tl ct] 26 (0, 0))) : Ans w (7, 46, #[pv g]) (decide ((tl : Int) ≤ 65536)) := by
  refine ⟨fun wx => by kernel_rfl, fun wx k => ?_⟩
  obtain ⟨-, -, -, -, c4⟩ := cells5 (k.at h)
  show Calls Tryd.prog 46 #[.pointer (some ⟨g, 0, none⟩)] wx _
  go_enter Tryd.func46, Tryd.ntmps46
  go_wp2_with fail
  go_ret
  exact ⟨rfl, Keep.refl _⟩
end Go.Proofs.YtodegcobkngmlaaDoor
