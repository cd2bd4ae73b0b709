import Derived.Test.YtgjhbolnnnibkaaGreatDoorProg
import Derived.Test.YtgjhbolnnnibkaaGreatDoorLK1
import Derived.Test.YtgjhbolnnnibkaaGreatDoorLE7
import Derived.Test.YtgjhbolnnnibkaaGreatDoorLF5
import Derived.Test.YtgjhbolnnnibkaaGreatDoorShelf
import Derived.Test.YtgjhbolnnnibkaaGreatDoorNC3
import Derived.WalkKit
import Derived.WalkSpells
import Derived.WalkLawsBesides
import Derived.Laws.CopyOwn
import Derived.Deep.Draws
import Derived.Deep.QuietTactic
import Derived.BigQuiet
import Derived.Laws.MathBits
import Derived.Laws.BytesArg
import Derived.Lib.OthersKept
import Derived.Deep.RegionWith
import Derived.WalkMore
import Derived.Deep.LoopGhost
import Derived.Laws.Externs
import Derived.Deep.Cut
import Derived.Deep.CutRange
import Derived.Deep.CutBlock
set_option linter.unusedVariables false
set_option linter.unusedSimpArgs false
namespace Go.Proofs.YtgjhbolnnnibkaaGreatDoor.Li
open Go.RowKit Lb Nr
theorem heap5 (w : World) (g : Nat) {x0 x1 x2 x3 x4 : Value} (v0 v1 v2 v3 v4 : Value) (h : w.heap[g]? = some (.cells #[x0, x1, x2, x3, x4] 51 (0, 0))) :
    (((((w.setCell ⟨g, 0, none⟩ v0).setCell ⟨g, 1, none⟩ v1).setCell ⟨g, 2, none⟩ v2).setCell ⟨g, 3, none⟩ v3).setCell ⟨g, 4, none⟩ v4).heap[g]? = some (.cells #[v0, v1, v2, v3, v4] 51 (0, 0)) := by
  have a0 := heap_setCell_same w g 0 _ 51 v0 h
  have a1 := heap_setCell_same _ g 1 _ 51 v1 a0
  have a2 := heap_setCell_same _ g 2 _ 51 v2 a1
  have a3 := heap_setCell_same _ g 3 _ 51 v3 a2
  have a4 := heap_setCell_same _ g 4 _ 51 v4 a3
  simpa using a4
/-- The format, as the reference has it; a number of the reference. -/
def wideV : Value := .agg #[.int .i64 53, .int .i64 (-1074), .int .i64 971]
def numV (ng inf : Bool) (M : Nat) (E : Int) : Value := .agg #[.bool ng, .bool inf, .bool false, .int .u64 (M : Nat), .int .i64 E]
def nearV (M : Nat) (E : Int) (ng : Bool) : Value := if 971 < rE M E then numV ng true 0 0 else numV ng false (rM M) (rE M E)
theorem q_great' {x y : Nat} (hx : 0 < x) (hy : 0 < y) (h : (55 : Int) < (sz x : Int) - (sz y : Int)) : 9007199254740992 ≤ x / y := by
  rw [Nat.le_div_iff_mul_le hy]
  have a := sz_lt y
  obtain ⟨b, c⟩ := sz_ge hx
  have d : 2 ^ 53 * 2 ^ sz y ≤ 2 ^ (sz x - 1) := by
    rw [← Nat.pow_add]
    exact Nat.pow_le_pow_right (by omega) (by omega)
  rw [p53] at d
  omega
theorem q_less {x y : Nat} (hy : 0 < y) (h : (sz x : Int) - (sz y : Int) ≤ 55) : x / y < 18446744073709551616 := by
  rw [Nat.div_lt_iff_lt_mul hy]
  have a := sz_lt x
  obtain ⟨b, c⟩ := sz_ge hy
  have d : 2 ^ sz x ≤ 2 ^ 56 * 2 ^ (sz y - 1) := by
    rw [← Nat.pow_add]
    exact Nat.pow_le_pow_right (by omega) (by omega)
  have e := Nat.mul_le_mul_left (2 ^ 56) b
  have f : (2 : Nat) ^ 56 = 72057594037927936 := rfl
  omega
theorem sA_pos {N : Nat} (h : 0 < N) (e : Int) : 0 < sA N e := Nat.mul_pos h (Nat.two_pow_pos _)
theorem fl_big {N D : Nat} {e : Int} (hN : 0 < N) (hD : 0 < D) (h : (55 : Int) < (sz (sA N e) : Int) - (sz (sB D e) : Int)) : 9007199254740992 ≤ fl N D e := by
  have := q_great' (sA_pos hN e) (sB_pos hD e) h
  exact this
/-- Where the search begins. -/
def e0 (N D : Nat) : Int := max ((sz N : Int) - (sz D : Int) - 54) (-1074)
theorem e0_ok {N D : Nat} (hN : 0 < N) (hD : 0 < D) : -1074 ≤ e0 N D ∧ (e0 N D = -1074 ∨ 9007199254740992 ≤ fl N D (e0 N D - 1)) := by
  refine ⟨by unfold e0; omega, ?_⟩
  by_cases h : e0 N D = -1074
  · exact .inl h
  · have := fl_ge (c := 53) (e := e0 N D - 1) hN hD (by unfold e0 at *; omega)
    rw [p53] at this
    exact .inr this
theorem e_le {N D : Nat} (hD : 0 < D) {e : Int} (h : e = -1074 ∨ 9007199254740992 ≤ fl N D (e - 1)) : e ≤ -1074 ∨ e ≤ (sz N : Int) - (sz D : Int) := by
  rcases h with h | h
  · exact .inl (by omega)
  · refine .inr (Int.not_lt.1 fun g => ?_)
    have := fl_lt (N := N) (c := 53) (e := e - 1) hD (by omega)
    rw [p53] at this
    omega
theorem fl_step {N D : Nat} (hD : 0 < D) (e : Int) (h : 9007199254740992 ≤ fl N D e) : fl N D (e + 1) < fl N D e := by
  have := fl_add hD e 1 (N := N)
  rw [show e + (1 : Nat) = e + 1 from rfl] at this
  omega
end Go.Proofs.YtgjhbolnnnibkaaGreatDoor.Li
