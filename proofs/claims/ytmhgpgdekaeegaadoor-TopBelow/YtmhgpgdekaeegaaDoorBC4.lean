import Derived.Test.YtmhgpgdekaeegaaDoorProg
import Derived.Test.YtmhgpgdekaeegaaDoorBC3
import Derived.WalkKit
import Derived.WalkSpells
import Derived.WalkLawsBesides
import Derived.Laws.CopyOwn
import Derived.Deep.Draws
import Derived.Deep.QuietTactic
import Derived.BigQuiet
import Derived.Deep.RegionWith
import Derived.Deep.RegionHeld3
import Derived.Shelf.Strconv.Itoa0
import Derived.Shelf.Spec.TrailingZeros
set_option linter.unusedVariables false
set_option linter.unusedSimpArgs false
namespace Go.Proofs.YtmhgpgdekaeegaaDoor.Bi
open Go.RowKit
/-- How many bits are in below m. -/
def cn (l : List Nat) (m : Nat) : Nat := (List.range m).countP (hs l)
theorem hs_at (l : List Nat) (k i : Nat) (h : i < 64) : hs l (64 * k + i) = (l.getD k 0).testBit i := by
  unfold hs; rw [show (64 * k + i) / 64 = k by omega, show (64 * k + i) % 64 = i by omega]
theorem cn_word (l : List Nat) (k r : Nat) (h : r ≤ 64) : cn l (64 * k + r) = cn l (64 * k) + pcn r (l.getD k 0) := by
  unfold cn pcn
  rw [List.range_add, List.countP_append, List.countP_map]
  congr 1
  apply List.countP_congr
  intro i hi
  rw [List.mem_range] at hi
  simp only [Function.comp]
  rw [hs_at l k i (by omega)]
theorem cn_next (l : List Nat) (k : Nat) : cn l (64 * (k + 1)) = cn l (64 * k) + pcn 64 (l.getD k 0) := by
  rw [show 64 * (k + 1) = 64 * k + 64 by omega, cn_word l k 64 (by omega)]
theorem cn_le (l : List Nat) (m : Nat) : cn l m ≤ m := by
  have := List.countP_le_length (p := hs l) (l := List.range m)
  rw [List.length_range] at this
  exact this
set_option maxRecDepth 100000 in
theorem Count_any (a : Option Addr) (c : Nat) (l : List Nat) (w : World) (hl : l.length ≤ 17592186044416) (hr : Rd w a l) (hw : W64 l) :
    Calls Tryd.prog 7 #[.slice a l.length c] w fun e w' => e = .returned (.int .i64 (cn l (64 * l.length) : Nat)) ∧ w' = w := by
  go_enter Tryd.func7, Tryd.ntmps7
  go_wp2_with fail
  go_loop [3, 8] (fun n i => ∃ k : Nat, k ≤ l.length ∧ n = .int .i64 (cn l (64 * k) : Nat) ∧ i = .int .i64 k) (fun _ i => l.length - (intOf i).toNat)
  case atStart => exact ⟨0, by omega, rfl, rfl⟩
  case round =>
    obtain ⟨k, hk, rfl, rfl⟩ := hrel
    by_cases hkl : k < l.length
    · obtain ⟨b, o, rfl, hc⟩ := hr k hkl
      have hxl := W64_getD hw k
      have Hn : Hid (cn l (64 * (k + 1)) = cn l (64 * k) + pcn 64 (l.getD k 0)) := cn_next l k
      have hb1 := cn_le l (64 * k)
      have hb2 := pcn_le 64 (l.getD k 0)
      generalize l.getD k 0 = x at hc hxl Hn hb2
      generalize cn l (64 * k) = n at Hn hb1 ⊢
      go_wp2_with (go_at_call 17; refine (Ones_any _ _ hxl).mono ?_; rintro e w' ⟨rfl, rfl⟩)
      go_round
      case rel => exact ⟨k + 1, by omega, by rw [Hn.out]; go_num, by go_num⟩
      case measure => simp [intOf]; omega
    · obtain rfl : k = l.length := by omega
      go_wp2_with fail
      go_ret
      exact ⟨rfl, rfl⟩
end Go.Proofs.YtmhgpgdekaeegaaDoor.Bi
