import Derived.Test.YtmhgpgdekaeegaaDoorProg
import Derived.Test.YtmhgpgdekaeegaaDoorBC4
import Derived.WalkKit
import Derived.WalkSpells
import Derived.WalkLawsBesides
import Derived.Laws.CopyOwn
import Derived.Deep.Draws
import Derived.Deep.QuietTactic
import Derived.BigQuiet
import Derived.Deep.RegionWith
import Derived.Deep.RegionHeld3
import Derived.Shelf.Strconv.Itoa0
import Derived.Shelf.Spec.TrailingZeros
set_option linter.unusedVariables false
set_option linter.unusedSimpArgs false
namespace Go.Proofs.YtmhgpgdekaeegaaDoor.Bi
open Go.RowKit
/-- All bits that are in, rising. -/
def allB (l : List Nat) : List Nat := (List.range (64 * l.length)).filter (hs l)
theorem filter_get (P : Nat → Bool) (m p : Nat) (hp : p < m) (h : P p = true) : ((List.range m).filter P)[(List.range p).countP P]? = some p := by
  obtain ⟨d, rfl⟩ : ∃ d, m = p + (1 + d) := ⟨m - p - 1, by omega⟩
  rw [List.range_add, List.filter_append, List.countP_eq_length_filter, List.getElem?_append_right (Nat.le_refl _), Nat.sub_self, List.range_add, List.map_append, List.filter_append]
  simp [h]
theorem allB_length (l : List Nat) : (allB l).length = cn l (64 * l.length) := by
  unfold allB cn; rw [List.countP_eq_length_filter]
theorem allB_get {l : List Nat} {p : Nat} (hp : p < 64 * l.length) (h : hs l p = true) : (allB l)[cn l p]? = some p := filter_get (hs l) _ p hp h
/-- The k-th bit, or -1. -/
def selI (l : List Nat) (k : Nat) : Int := match (allB l)[k]? with | some p => (p : Int) | none => -1
theorem selI_some {l : List Nat} {p : Nat} (hp : p < 64 * l.length) (h : hs l p = true) : selI l (cn l p) = p := by unfold selI; rw [allB_get hp h]
theorem selI_none {l : List Nat} {k : Nat} (h : cn l (64 * l.length) ≤ k) : selI l k = -1 := by unfold selI; rw [List.getElem?_eq_none (by rw [allB_length]; exact h)]
set_option maxRecDepth 100000 in
theorem Select_ok (a : Option Addr) (c k0 : Nat) (l : List Nat) (w : World) (hl : l.length ≤ 17592186044416) (hk0 : k0 ≤ 9223372036854775807) (hr : Rd w a l) (hw : W64 l) (hT : Tab w) :
    Calls Tryd.prog 18 #[.slice a l.length c, .int .i64 (k0 : Nat)] w fun e w' => e = .returned (.int .i64 (selI l k0)) ∧ w' = w := by
  have h0 : ¬ (k0 : Int) < 0 := by omega
  go_enter Tryd.func18, Tryd.ntmps18
  go_wp2_with fail
  go_loop [1, 12] (fun r i => ∃ j k : Nat, j ≤ l.length ∧ r = .int .i64 (k : Nat) ∧ i = .int .i64 j ∧ Hid (k + cn l (64 * j) = k0)) (fun _ i => l.length - (intOf i).toNat)
  case atStart => exact ⟨0, k0, by omega, rfl, rfl, rfl⟩
  case round =>
    obtain ⟨j, k, hj, rfl, rfl, hkk⟩ := hrel
    have hkb : k ≤ 9223372036854775807 := by have := hkk.out; omega
    by_cases hjl : j < l.length
    · obtain ⟨b, o, rfl, hc⟩ := hr j hjl
      have hxl := W64_getD hw j
      have Hn : Hid (cn l (64 * (j + 1)) = cn l (64 * j) + pcn 64 (l.getD j 0)) := cn_next l j
      have Hs : Hid (∀ k, k < pcn 64 (l.getD j 0) → k + cn l (64 * j) = k0 → Lib.ctz 64 (clr (l.getD j 0) k) < 64 ∧ selI l k0 = ((j * 64 + Lib.ctz 64 (clr (l.getD j 0) k) : Nat) : Int)) := by
        show ∀ k, _
        intro k hk e
        obtain ⟨-, -, g3, g4, g5⟩ := sel_spec hxl hk
        generalize Lib.ctz 64 (clr (l.getD j 0) k) = p at g3 g4 g5
        refine ⟨g3, ?_⟩
        have e1 : cn l (64 * j + p) = k0 := by rw [cn_word l j p (by omega), g5]; omega
        rw [← e1, selI_some (by omega) (by rw [hs_at l j p g3]; exact g4), Nat.mul_comm]
      have hb2 := pcn_le 64 (l.getD j 0)
      generalize l.getD j 0 = x at hc hxl Hn Hs hb2
      obtain ⟨n, hn⟩ : ∃ n, pcn 64 x = n := ⟨_, rfl⟩
      have hO := Ones_any x w hxl
      by_cases hlt : k < pcn 64 x
      · have hS := selected_any x k w hxl hlt hT
        obtain ⟨g1, g2⟩ := Hs.out k hlt hkk.out
        have G2 : Hid (selI l k0 = ((j * 64 + Lib.ctz 64 (clr x k) : Nat) : Int)) := g2
        clear g2
        generalize Lib.ctz 64 (clr x k) = p at hS g1 G2
        rw [hn] at hO hlt hb2
        clear Hs Hn hn
        go_wp2_with first
          | (go_at_call 17; refine hO.mono ?_; rintro e w' ⟨rfl, rfl⟩)
          | (go_at_call 29; refine hS.mono ?_; rintro e w' ⟨rfl, rfl⟩)
        go_ret
        exact ⟨ret_int (by rw [G2.out]; omega), rfl⟩
      · rw [hn] at hO hlt hb2
        have Hn2 : Hid ((k - n) + cn l (64 * (j + 1)) = k0) := by
          have := Hn.out; have := hkk.out; show _ = _; rw [hn] at *; omega
        clear Hs Hn hn
        go_wp2_with (go_at_call 17; refine hO.mono ?_; rintro e w' ⟨rfl, rfl⟩)
        go_round
        case rel => exact ⟨j + 1, k - n, by omega, by first | rfl | go_num | (congr 1; omega), by go_num, Hn2⟩
        case measure => simp [intOf]; omega
    · obtain rfl : j = l.length := by omega
      have G2 : Hid (selI l k0 = -1) := selI_none (by have := hkk.out; omega)
      go_wp2_with fail
      go_ret
      exact ⟨ret_int G2.out.symm, rfl⟩
theorem Lowest_any (a : Option Addr) (c : Nat) (l : List Nat) (w : World) (hl : l.length ≤ 17592186044416) (hr : Rd w a l) (hw : W64 l) (hT : Tab w) :
    Calls Tryd.prog 8 #[.slice a l.length c] w fun e w' => e = .returned (.int .i64 (selI l 0)) ∧ w' = w := by
  have h := Select_ok a c 0 l w hl (by omega) hr hw hT
  go_enter Tryd.func8, Tryd.ntmps8
  go_wp2_with (go_at_call 18; refine h.mono ?_; rintro e w' ⟨rfl, rfl⟩)
  go_ret
  exact ⟨rfl, rfl⟩
end Go.Proofs.YtmhgpgdekaeegaaDoor.Bi
