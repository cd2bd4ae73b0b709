import Derived.Test.YtieheijcfiijmaaDoorProg
import Derived.Test.YtieheijcfiijmaaDoorZY1
import Derived.Deep.RegionLaw
import Derived.Shelf.Abstract
import Derived.Below
import Derived.WalkKit
import Derived.WalkSpells
import Derived.WalkLawsBesides
import Derived.Deep.Draws
import Derived.Deep.QuietTactic
import Derived.BigQuiet
import Derived.Laws.Externs
import Derived.Laws.CopyOwn
import Derived.BigRegion
import Derived.Laws.BitsAll
import Derived.Deep.RegionHeld3
import Derived.Deep.Cut
set_option linter.unusedVariables false
set_option linter.unusedSimpArgs false
namespace Go.Proofs.YtieheijcfiijmaaDoor
open Go.RowKit Go.Shelf
theorem Itm.own {B : Nat} {w : World} {v : Value} {l : List Nat} (h : OwnF B w v l) : ∃ a c, v = .slice a l.length c ∧ Itm 1 57 B w (a, l.length, c) l := by
  rcases h.2 with ⟨h1, h2⟩ | ⟨g, cap, cur, hv, hg, hh, h1, h2, h3, h4⟩
  · refine ⟨none, 0, by rw [h1, h2], ⟨by simp, by show l.length ≤ 0; omega, by intro j hj; have : l.length = 0 := h2; omega, by intro p hp; cases hp⟩⟩
  · obtain ⟨a, c, e, hc, hr⟩ := h.shape
    rw [e] at hv
    simp only [Value.slice.injEq, true_and] at hv
    obtain ⟨rfl, rfl⟩ := hv
    refine ⟨_, _, e, ⟨by simp, hc, hr, ?_⟩⟩
    intro p hp
    simp only [Option.some.injEq] at hp
    subst hp
    exact ⟨hg, cur, hh⟩
theorem Itm.mono {z I B B' : Nat} {w : World} {x : Sl} {l : List Nat} (h : Itm z I B w x l) (hB : B' ≤ B) : Itm z I B' w x l :=
  ⟨h.n, h.c, h.rd, fun p hp => ⟨Nat.le_trans hB (h.ty p hp).1, (h.ty p hp).2⟩⟩
/-- A copy of vectors, each in memory of its own. -/
theorem isMany_any (d : Int) (w : World) : Calls Tryd.prog 27 #[.int .i64 d] w fun e w' => e = .returned (.bool (decide (0 ≤ d) && decide (d ≤ 65536))) ∧ w' = w := by
  by_cases h : 0 ≤ d
  · have hd : decide (0 ≤ d) = true := decide_eq_true h
    go_enter Tryd.func27, Tryd.ntmps27
    go_wp2_with fail
    go_ret
    exact ⟨by simp [hd], rfl⟩
  · have hd : decide (0 ≤ d) = false := decide_eq_false h
    go_enter Tryd.func27, Tryd.ntmps27
    go_wp2_with fail
    go_ret
    exact ⟨by simp [hd], rfl⟩
end Go.Proofs.YtieheijcfiijmaaDoor
