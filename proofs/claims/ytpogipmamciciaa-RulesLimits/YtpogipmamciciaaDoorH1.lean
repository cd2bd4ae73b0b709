import Derived.Test.YtpogipmamciciaaDoorProg
import Derived.Test.YtpogipmamciciaaDoorF1
import Derived.Test.YtpogipmamciciaaDoorN2
import Derived.WalkKit
import Derived.WalkSpells
import Derived.WalkLawsBesides
import Derived.Deep.Draws
import Derived.Deep.QuietTactic
import Derived.BigQuiet
import Derived.Laws.Externs
import Derived.Laws.CopyOwn
import Derived.Shelf.Abstract
import Derived.Deep.RegionLaw
import Derived.BigRegion
import Derived.Deep.RegionHeld3
set_option linter.unusedVariables false
set_option linter.unusedSimpArgs false
namespace Go.Proofs.YtpogipmamciciaaDoor
open Go.RowKit Go.Shelf
/-- Does a number lie within? -/
def winB (n lo hi : Int) : Bool := decide (lo ≤ n) && decide (n ≤ hi)
theorem within_any (n lo hi : Int) (w : World) : Calls Tryd.prog 19 #[.int .i64 n, .int .i64 lo, .int .i64 hi] w fun e w' => e = .returned (.bool (winB n lo hi)) ∧ w' = w := by
  have H : Hid (winB n lo hi = (decide (lo ≤ n) && decide (n ≤ hi))) := rfl
  by_cases h : lo ≤ n
  · have hd : decide (lo ≤ n) = true := decide_eq_true h
    rw [hd] at H
    clear h
    go_enter Tryd.func19, Tryd.ntmps19
    go_wp2_with fail
    go_ret
    exact ⟨by rw [H.out, Bool.true_and]; rfl, rfl⟩
  · have hd : decide (lo ≤ n) = false := decide_eq_false h
    rw [hd] at H
    clear h
    go_enter Tryd.func19, Tryd.ntmps19
    go_wp2_with fail
    go_ret
    exact ⟨by rw [H.out, Bool.false_and]; rfl, rfl⟩
/-- Rules that lie in a block. -/
theorem rdR_of {w : World} {b : Nat} {cs : Array Value} {R : List Rl} (h : w.heap[b]? = some (.cells cs 51 (0, 0)))
    (hc : ∀ j, j < R.length → cs[j * 2]? = some (.int .i64 (R.getD j rl0).1) ∧ cs[j * 2 + 1]? = some (.func (.func (R.getD j rl0).2.1) #[] (R.getD j rl0).2.2)) : RdR w (some ⟨b, 0, none⟩) R := by
  intro j hj
  obtain ⟨h1, h2⟩ := hc j hj
  refine ⟨b, 0, rfl, ?_, ?_⟩
  · rw [Nat.zero_add, cell_of_row _ _ _ _ 51 (0, 0) h]; exact h1
  · rw [Nat.zero_add, cell_of_row _ _ _ _ 51 (0, 0) h]; exact h2
abbrev pv (g : Nat) : Value := .pointer (some ⟨g, 0, none⟩)
theorem hd1_ans {w : World} {g : Nat} {nm : ByteArray} {v1 v2 v3 v4 : Value} (h : w.heap[g]? = some (.cells #[.string nm, v1, v2, v3, v4] 26 (0, 0))) (hT : Kt w) (hs : nm.size ≤ 281474976710656) : Ans w (1, 16, #[pv g]) (nameB nm) := by
  refine ⟨fun wx => by kernel_rfl, fun wx k => ?_⟩
  obtain ⟨c0, -, -, -, -⟩ := cells5 (k.at h)
  have N := Name_any nm wx (hT.keep k) hs
  show Calls Tryd.prog 16 #[.pointer (some ⟨g, 0, none⟩)] wx _
  go_enter Tryd.func16, Tryd.ntmps16
  go_wp2_with (go_at_call 17; refine N.mono ?_; rintro e w0 ⟨rfl, rfl⟩)
  go_ret
  exact ⟨rfl, Keep.refl _⟩
theorem hd2_ans {w : World} {g F cf : Nat} {fa : Option Addr} {v0 v2 v3 v4 : Value} (h : w.heap[g]? = some (.cells #[v0, .slice fa F cf, v2, v3, v4] 26 (0, 0))) : Ans w (2, 18, #[pv g]) (winB F 1 65536) := by
  refine ⟨fun wx => by kernel_rfl, fun wx k => ?_⟩
  obtain ⟨-, c1, -, -, -⟩ := cells5 (k.at h)
  show Calls Tryd.prog 18 #[.pointer (some ⟨g, 0, none⟩)] wx _
  go_enter Tryd.func18, Tryd.ntmps18
  go_wp2_with (go_at_call 19; refine (within_any _ _ _ _).mono ?_; rintro e w0 ⟨rfl, rfl⟩)
  go_ret
  exact ⟨rfl, Keep.refl _⟩
theorem ct1_ans {w : World} {g : Nat} {N : Int} {v0 v1 v3 v4 : Value} (h : w.heap[g]? = some (.cells #[v0, v1, .int .i64 N, v3, v4] 26 (0, 0))) : Ans w (5, 22, #[pv g]) (winB N 1 64) := by
  refine ⟨fun wx => by kernel_rfl, fun wx k => ?_⟩
  obtain ⟨-, -, c2, -, -⟩ := cells5 (k.at h)
  show Calls Tryd.prog 22 #[.pointer (some ⟨g, 0, none⟩)] wx _
  go_enter Tryd.func22, Tryd.ntmps22
  go_wp2_with (go_at_call 19; refine (within_any _ _ _ _).mono ?_; rintro e w0 ⟨rfl, rfl⟩)
  go_ret
  exact ⟨rfl, Keep.refl _⟩
theorem ct2_ans {w : World} {g bl cb : Nat} {ba : Option Addr} {N : Int} {v0 v1 v4 : Value} (h : w.heap[g]? = some (.cells #[v0, v1, .int .i64 N, .slice ba bl cb, v4] 26 (0, 0))) : Ans w (6, 23, #[pv g]) ((bl : Int) == N) := by
  refine ⟨fun wx => by kernel_rfl, fun wx k => ?_⟩
  obtain ⟨-, -, c2, c3, -⟩ := cells5 (k.at h)
  show Calls Tryd.prog 23 #[.pointer (some ⟨g, 0, none⟩)] wx _
  go_enter Tryd.func23, Tryd.ntmps23
  go_wp2_with fail
  go_ret
  exact ⟨rfl, Keep.refl _⟩
theorem ct3_ans {w : World} {g tl ct : Nat} {ta : Option Addr} {v0 v1 v2 v3 : Value} (h : w.heap[g]? = some (.cells #[v0, v1, v2, v3, .slice ta tl ct] 26 (0, 0))) : Ans w (7, 24, #[pv g]) (decide ((tl : Int) ≤ 65536)) := by
  refine ⟨fun wx => by kernel_rfl, fun wx k => ?_⟩
  obtain ⟨-, -, -, -, c4⟩ := cells5 (k.at h)
  show Calls Tryd.prog 24 #[.pointer (some ⟨g, 0, none⟩)] wx _
  go_enter Tryd.func24, Tryd.ntmps24
  go_wp2_with fail
  go_ret
  exact ⟨rfl, Keep.refl _⟩
end Go.Proofs.YtpogipmamciciaaDoor
