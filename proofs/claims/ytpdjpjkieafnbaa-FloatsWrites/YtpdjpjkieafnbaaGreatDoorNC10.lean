import Derived.Test.YtpdjpjkieafnbaaGreatDoorProg
import Derived.Test.YtpdjpjkieafnbaaGreatDoorLK1
import Derived.Test.YtpdjpjkieafnbaaGreatDoorLE7
import Derived.Test.YtpdjpjkieafnbaaGreatDoorShelf
import Derived.Test.YtpdjpjkieafnbaaGreatDoorNC3
import Derived.WalkKit
import Derived.WalkSpells
import Derived.WalkLawsBesides
import Derived.Laws.CopyOwn
import Derived.Deep.Draws
import Derived.Deep.QuietTactic
import Derived.BigQuiet
import Derived.Laws.MathBits
import Derived.Laws.BytesArg
import Derived.Lib.OthersKept
import Derived.Deep.RegionWith
import Derived.WalkMore
import Derived.Deep.LoopGhost
import Derived.Laws.Externs
import Derived.Deep.Cut
import Derived.Deep.CutRange
import Derived.Deep.CutBlock
import Derived.Test.YtpdjpjkieafnbaaGreatDoorNC4
import Derived.Deep.RegionHeld3
set_option linter.unusedVariables false
set_option linter.unusedSimpArgs false
namespace Go.Proofs.YtpdjpjkieafnbaaGreatDoor.Li
open Go.RowKit Lb Nr
theorem heap5 (w : World) (g : Nat) {x0 x1 x2 x3 x4 : Value} (v0 v1 v2 v3 v4 : Value) (h : w.heap[g]? = some (.cells #[x0, x1, x2, x3, x4] 28 (0, 0))) :
    (((((w.setCell ⟨g, 0, none⟩ v0).setCell ⟨g, 1, none⟩ v1).setCell ⟨g, 2, none⟩ v2).setCell ⟨g, 3, none⟩ v3).setCell ⟨g, 4, none⟩ v4).heap[g]? = some (.cells #[v0, v1, v2, v3, v4] 28 (0, 0)) := by
  have a0 := heap_setCell_same w g 0 _ 28 v0 h
  have a1 := heap_setCell_same _ g 1 _ 28 v1 a0
  have a2 := heap_setCell_same _ g 2 _ 28 v2 a1
  have a3 := heap_setCell_same _ g 3 _ 28 v3 a2
  have a4 := heap_setCell_same _ g 4 _ 28 v4 a3
  simpa using a4
/-- The format, as the reference has it; a number of the reference. -/
def wideV : Value := .agg #[.int .i64 53, .int .i64 (-1074), .int .i64 971]
def numV (ng inf : Bool) (M : Nat) (E : Int) : Value := .agg #[.bool ng, .bool inf, .bool false, .int .u64 (M : Nat), .int .i64 E]
def nearV (M : Nat) (E : Int) (ng : Bool) : Value := if 971 < rE M E then numV ng true 0 0 else numV ng false (rM M) (rE M E)
theorem q_great' {x y : Nat} (hx : 0 < x) (hy : 0 < y) (h : (55 : Int) < (sz x : Int) - (sz y : Int)) : 9007199254740992 ≤ x / y := by
  rw [Nat.le_div_iff_mul_le hy]
  have a := sz_lt y
  obtain ⟨b, c⟩ := sz_ge hx
  have d : 2 ^ 53 * 2 ^ sz y ≤ 2 ^ (sz x - 1) := by
    rw [← Nat.pow_add]
    exact Nat.pow_le_pow_right (by omega) (by omega)
  rw [p53] at d
  omega
theorem q_less {x y : Nat} (hy : 0 < y) (h : (sz x : Int) - (sz y : Int) ≤ 55) : x / y < 18446744073709551616 := by
  rw [Nat.div_lt_iff_lt_mul hy]
  have a := sz_lt x
  obtain ⟨b, c⟩ := sz_ge hy
  have d : 2 ^ sz x ≤ 2 ^ 56 * 2 ^ (sz y - 1) := by
    rw [← Nat.pow_add]
    exact Nat.pow_le_pow_right (by omega) (by omega)
  have e := Nat.mul_le_mul_left (2 ^ 56) b
  have f : (2 : Nat) ^ 56 = 72057594037927936 := rfl
  omega
theorem sA_pos {N : Nat} (h : 0 < N) (e : Int) : 0 < sA N e := Nat.mul_pos h (Nat.two_pow_pos _)
theorem fl_big {N D : Nat} {e : Int} (hN : 0 < N) (hD : 0 < D) (h : (55 : Int) < (sz (sA N e) : Int) - (sz (sB D e) : Int)) : 9007199254740992 ≤ fl N D e := by
  have := q_great' (sA_pos hN e) (sB_pos hD e) h
  exact this
/-- Where the search begins. -/
def e0 (N D : Nat) : Int := max ((sz N : Int) - (sz D : Int) - 54) (-1074)
theorem e0_ok {N D : Nat} (hN : 0 < N) (hD : 0 < D) : -1074 ≤ e0 N D ∧ (e0 N D = -1074 ∨ 9007199254740992 ≤ fl N D (e0 N D - 1)) := by
  refine ⟨by unfold e0; omega, ?_⟩
  by_cases h : e0 N D = -1074
  · exact .inl h
  · have := fl_ge (c := 53) (e := e0 N D - 1) hN hD (by unfold e0 at *; omega)
    rw [p53] at this
    exact .inr this
theorem e_le {N D : Nat} (hD : 0 < D) {e : Int} (h : e = -1074 ∨ 9007199254740992 ≤ fl N D (e - 1)) : e ≤ -1074 ∨ e ≤ (sz N : Int) - (sz D : Int) := by
  rcases h with h | h
  · exact .inl (by omega)
  · refine .inr (Int.not_lt.1 fun g => ?_)
    have := fl_lt (N := N) (c := 53) (e := e - 1) hD (by omega)
    rw [p53] at this
    omega
theorem fl_step {N D : Nat} (hD : 0 < D) (e : Int) (h : 9007199254740992 ≤ fl N D e) : fl N D (e + 1) < fl N D e := by
  have := fl_add hD e 1 (N := N)
  rw [show e + (1 : Nat) = e + 1 from rfl] at this
  omega
end Go.Proofs.YtpdjpjkieafnbaaGreatDoor.Li
set_option linter.unusedVariables false
set_option linter.unusedSimpArgs false
namespace Go.Proofs.YtpdjpjkieafnbaaGreatDoor.Li
open Go.RowKit Lb Nr
/-- The bits of a number of the reference, without its sign. -/
def nb (inf : Bool) (M : Nat) (E : Int) : Nat := if inf then 9218868437227405312 else if 4503599627370496 ≤ M then (E + 1075).toNat * 4503599627370496 + (M - 4503599627370496) else M
def sg (ng : Bool) : Nat := if ng then 9223372036854775808 else 0
theorem or_sign (x : Nat) (h : x < 9223372036854775808) : bits .or .u64 (x : Int) 9223372036854775808 = ((x + 9223372036854775808 : Nat) : Int) := by
  rw [show (9223372036854775808 : Int) = ((9223372036854775808 : Nat) : Int) from rfl, u64_or_nat x _ (by omega) (by omega), Nat.or_comm]
  have := Nat.two_pow_add_eq_or_of_lt (i := 63) (b := x) h 1
  rw [Nat.mul_one, show (2 : Nat) ^ 63 = 9223372036854775808 from rfl] at this
  rw [← this]
  omega
theorem or_low (k m : Nat) (hk : k < 2048) (hm : m < 4503599627370496) : bits .or .u64 ((k : Int) * 4503599627370496) (m : Int) = ((k * 4503599627370496 + m : Nat) : Int) := by
  rw [show (k : Int) * 4503599627370496 = ((k * 4503599627370496 : Nat) : Int) by omega, u64_or_nat _ _ (by omega) (by omega)]
  have := Nat.two_pow_add_eq_or_of_lt (i := 52) (b := m) hm k
  rw [show (2 : Nat) ^ 52 = 4503599627370496 from rfl, Nat.mul_comm] at this
  rw [← this]
theorem and_low (m : Nat) (h1 : 4503599627370496 ≤ m) (h2 : m < 9007199254740992) : bits .and .u64 (m : Int) 4503599627370495 = ((m - 4503599627370496 : Nat) : Int) := by
  rw [show (4503599627370495 : Int) = ((4503599627370495 : Nat) : Int) from rfl, u64_and_nat m _ (by omega) (by omega), show m &&& 4503599627370495 = m % 4503599627370496 from Nat.and_two_pow_sub_one_eq_mod m 52]
  omega
set_option maxRecDepth 100000 in
set_option maxHeartbeats 1000000 in
theorem Bits_any (ng inf : Bool) (M : Nat) (E : Int) (hM : M < 9007199254740992) (hE : -1074 ≤ E ∧ E ≤ 971) (w : World) :
    Calls Tryz.prog 55 #[numV ng inf M E, wideV] w fun e w' => e = .returned (.int .u64 (nb inf M E + sg ng : Nat)) ∧ Keep w w' := by
  have HB : Hid (nb inf M E = if inf then 9218868437227405312 else if 4503599627370496 ≤ M then (E + 1075).toNat * 4503599627370496 + (M - 4503599627370496) else M) := rfl
  have hlt : nb inf M E < 9223372036854775808 := by
    unfold nb
    split
    · omega
    · split <;> omega
  have hor := or_sign (nb inf M E) hlt
  unfold numV wideV
  generalize nb inf M E = X at *
  cases inf
  · by_cases h : 4503599627370496 ≤ M
    · have v := HB.out
      simp only [Bool.false_eq_true, if_false, if_pos h] at v
      obtain ⟨k, hk⟩ : ∃ k : Nat, E + 1075 = k := ⟨(E + 1075).toNat, by omega⟩
      have d1 : decide ((4503599627370496 : Int) ≤ (M : Int)) = true := decide_eq_true (by omega)
      have x1 : wrap64 (E + 1074) = E + 1074 := IntWalk.wrap64_in _ (by omega)
      have x2 : wrap64 (E + 1074 + 1) = (k : Int) := by rw [show E + 1074 + 1 = (k : Int) by omega]; exact IntWalk.wrap64_in _ (by omega)
      have x3 : IntKind.u64.wrap (k : Int) = (k : Int) := by rw [IntKind.wrap_u64]; omega
      have x4 : IntKind.u64.wrap ((k : Int) * 4503599627370496) = (k : Int) * 4503599627370496 := by rw [IntKind.wrap_u64]; omega
      have hk2 : E + 1074 + 1 = (k : Int) := by omega
      have x5 := and_low M h hM
      have x6 := or_low k (M - 4503599627370496) (by omega) (by omega)
      rw [show k * 4503599627370496 + (M - 4503599627370496) = X by rw [v, show (E + 1075).toNat = k by omega]] at x6
      obtain ⟨m, hm⟩ : ∃ m, M - 4503599627370496 = m := ⟨_, rfl⟩
      rw [hm] at x5 x6
      clear HB v hm h hM hlt hk
      cases ng
      all_goals
        unfold sg
        go_enter Tryz.func55, Tryz.ntmps55
        go_wp2_with fail
        go_ret
        exact ⟨ret_int (by first | rfl | omega | simp), ((Keep.refl w).alloc _).alloc _⟩
    · have v := HB.out
      simp only [Bool.false_eq_true, if_false, if_neg h] at v
      have d1 : decide ((4503599627370496 : Int) ≤ (M : Int)) = false := decide_eq_false (by omega)
      subst v
      clear HB h hM hlt
      cases ng
      all_goals
        unfold sg
        go_enter Tryz.func55, Tryz.ntmps55
        go_wp2_with fail
        go_ret
        exact ⟨ret_int (by first | rfl | omega | simp), ((Keep.refl w).alloc _).alloc _⟩
  · have v := HB.out
    simp only [if_true] at v
    subst v
    clear HB hlt
    cases ng
    all_goals
      unfold sg
      go_enter Tryz.func55, Tryz.ntmps55
      go_wp2_with fail
      go_ret
      exact ⟨ret_int (by first | rfl | omega | simp), ((Keep.refl w).alloc _).alloc _⟩
end Go.Proofs.YtpdjpjkieafnbaaGreatDoor.Li
set_option linter.unusedVariables false
set_option linter.unusedSimpArgs false
namespace Go.Proofs.YtpdjpjkieafnbaaGreatDoor.Li
open Go.RowKit Lb Nr
theorem exE {N D : Nat} (hN : 0 < N) (hD : 0 < D) : ∃ E, IsE N D E := by
  obtain ⟨_, d, _, _, h, _⟩ := main_E (e1 := max ((sz N : Int) - (sz D : Int) - 53) (-1074) - 2) hN hD rfl
  exact ⟨_, h⟩
end Go.Proofs.YtpdjpjkieafnbaaGreatDoor.Li
