import Derived.Test.YtpogipmamciciaaDoorProg
import Derived.Test.YtpogipmamciciaaDoorYBase
import Derived.WalkKit
import Derived.WalkSpells
import Derived.WalkLawsBesides
import Derived.Deep.Draws
import Derived.Deep.QuietTactic
import Derived.BigQuiet
import Derived.Laws.Externs
import Derived.Laws.CopyOwn
set_option linter.unusedVariables false
set_option linter.unusedSimpArgs false
namespace Go.Proofs.YtpogipmamciciaaDoor
open Go.RowKit
/-- No number: as the language compares. -/
def nanB (x : Nat) : Bool := !(FloatKind.f64.format.order x x == some .eq)
theorem IsNaN_any (x : Nat) (w : World) :
    Calls Tryd.prog 49 #[.float .f64 x] w fun e w' => e = .returned (.bool (nanB x)) ∧ w' = w := by
  go_enter Tryd.func49, Tryd.ntmps49
  go_wp2
  go_ret
  exact ⟨ret_bool rfl, rfl⟩
/-- Right categories. -/
@[reducible] def Cats (l : List Int) : Prop := 0 < l.length ∧ ∀ i, i < l.length → (0 ≤ l.getD i 0 ∧ l.getD i 0 < 1024 ∧ (0 < i → l.getD (i - 1) 0 < l.getD i 0))
def catsB (l : List Int) : Bool := decide (Cats l)
theorem catsB_iff (l : List Int) : catsB l = true ↔ Cats l := by unfold catsB; rw [decide_eq_true_eq]
theorem catsB_no {l : List Int} (h : ¬ Cats l) : catsB l = false := by unfold catsB; rw [decide_eq_false h]
set_option maxRecDepth 100000 in
theorem areCats_any (a : Option Addr) (c : Nat) (l : List Int) (w : World) (hl : l.length ≤ 17592186044416) (hr : RdI w a l) :
    Calls Tryd.prog 62 #[.slice a l.length c] w fun e w' => e = .returned (.bool (catsB l)) ∧ w' = w := by
  go_enter Tryd.func62, Tryd.ntmps62
  go_wp2
  go_loop [7] (fun i => ∃ k : Nat, k ≤ l.length ∧ i = .int .i64 k ∧ Hid (∀ i, i < k → (0 ≤ l.getD i 0 ∧ l.getD i 0 < 1024 ∧ (0 < i → l.getD (i - 1) 0 < l.getD i 0)))) (fun i => l.length - (intOf i).toNat)
  case atStart => exact ⟨0, by omega, rfl, by intro i hi; omega⟩
  case round =>
    obtain ⟨k, hk, rfl, hinv⟩ := hrel
    by_cases hkl : k < l.length
    · obtain ⟨b, o, rfl, hc⟩ := hr k hkl
      obtain ⟨x, hx⟩ : ∃ x, l.getD k 0 = x := ⟨_, rfl⟩
      rw [hx] at hc
      have Hx : Hid (l.getD k 0 = x) := hx
      clear hx
      by_cases hg : 0 ≤ x ∧ x < 1024 ∧ (0 < k → l.getD (k - 1) 0 < x)
      · obtain ⟨g1, g2, g3⟩ := hg
        have hn : Hid (∀ i, i < k + 1 → (0 ≤ l.getD i 0 ∧ l.getD i 0 < 1024 ∧ (0 < i → l.getD (i - 1) 0 < l.getD i 0))) := by
          intro i hi
          by_cases e : i = k
          · subst e; rw [Hx.out]; exact ⟨g1, g2, g3⟩
          · exact hinv.out i (by omega)
        by_cases hk0 : 0 < k
        · obtain ⟨b', o', e', hc'⟩ := hr (k - 1) (by omega)
          simp only [Option.some.injEq, Addr.mk.injEq, and_true] at e'
          obtain ⟨rfl, rfl⟩ := e'
          have g4 := g3 hk0
          obtain ⟨y, hy⟩ : ∃ y, l.getD (k - 1) 0 = y := ⟨_, rfl⟩
          rw [hy] at hc' g4
          clear hy g3
          go_wp2
          go_round
          case rel => exact ⟨k + 1, by omega, by go_num, hn⟩
          case measure => simp [intOf]; omega
        · have e0 : k = 0 := by omega
          subst e0
          clear g3
          rw [Nat.add_zero] at hc
          go_wp2
          go_round
          case rel => exact ⟨1, by omega, by go_num, hn⟩
          case measure => simp [intOf]; omega
      · have hf : Hid (¬ Cats l) := by
          intro h
          have := h.2 k hkl
          rw [Hx.out] at this
          exact hg this
        by_cases g1 : 0 ≤ x
        · by_cases g2 : x < 1024
          · have hk0 : 0 < k := by
              rcases Nat.eq_zero_or_pos k with e | e
              · exact absurd ⟨g1, g2, fun h => by omega⟩ hg
              · exact e
            have g4 : ¬ l.getD (k - 1) 0 < x := fun h => hg ⟨g1, g2, fun _ => h⟩
            obtain ⟨b', o', e', hc'⟩ := hr (k - 1) (by omega)
            simp only [Option.some.injEq, Addr.mk.injEq, and_true] at e'
            obtain ⟨rfl, rfl⟩ := e'
            obtain ⟨y, hy⟩ : ∃ y, l.getD (k - 1) 0 = y := ⟨_, rfl⟩
            rw [hy] at hc' g4
            clear hy hg
            go_wp2
            go_ret
            exact ⟨ret_bool (catsB_no hf.out).symm, rfl⟩
          · clear hg
            go_wp2
            go_ret
            exact ⟨ret_bool (catsB_no hf.out).symm, rfl⟩
        · clear hg
          go_wp2
          go_ret
          exact ⟨ret_bool (catsB_no hf.out).symm, rfl⟩
    · have hke : k = l.length := by omega
      have hR : Hid (catsB l = decide (0 < l.length)) := by
        show _ = _
        rw [Bool.eq_iff_iff, decide_eq_true_eq, catsB_iff]
        have := hinv.out
        rw [hke] at this
        exact ⟨fun h => by have := h.1; omega, fun h => ⟨by omega, this⟩⟩
      clear hke
      go_wp2
      go_ret
      exact ⟨ret_bool hR.out.symm, rfl⟩
end Go.Proofs.YtpogipmamciciaaDoor
