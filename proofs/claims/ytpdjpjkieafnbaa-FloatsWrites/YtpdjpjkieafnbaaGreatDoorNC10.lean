import Derived.Test.YtpdjpjkieafnbaaGreatDoorProg
import Derived.Test.YtpdjpjkieafnbaaGreatDoorLK1
import Derived.Test.YtpdjpjkieafnbaaGreatDoorLE7
import Derived.Test.YtpdjpjkieafnbaaGreatDoorShelf
import Derived.Test.YtpdjpjkieafnbaaGreatDoorNC3
import Derived.WalkKit
import Derived.WalkSpells
import Derived.WalkLawsBesides
import Derived.Laws.CopyOwn
import Derived.Deep.Draws
import Derived.Deep.QuietTactic
import Derived.BigQuiet
import Derived.Laws.MathBits
import Derived.Laws.BytesArg
import Derived.Lib.OthersKept
import Derived.Deep.RegionWith
import Derived.WalkMore
import Derived.Deep.LoopGhost
import Derived.Laws.Externs
import Derived.Deep.Cut
import Derived.Deep.CutRange
import Derived.Deep.CutBlock
import Derived.Test.YtpdjpjkieafnbaaGreatDoorNC4
import Derived.Deep.RegionHeld3
set_option linter.unusedVariables false
set_option linter.unusedSimpArgs false
namespace Go.Proofs.YtpdjpjkieafnbaaGreatDoor.Li
open Go.RowKit Lb Nr
theorem heap5 (w : World) (g : Nat) {x0 x1 x2 x3 x4 : Value} (v0 v1 v2 v3 v4 : Value) (h : w.heap[g]? = some (.cells #[x0, x1, x2, x3, x4] 28 (0, 0))) :
    (((((w.setCell ⟨g, 0, none⟩ v0).setCell ⟨g, 1, none⟩ v1).setCell ⟨g, 2, none⟩ v2).setCell ⟨g, 3, none⟩ v3).setCell ⟨g, 4, none⟩ v4).heap[g]? = some (.cells #[v0, v1, v2, v3, v4] 28 (0, 0)) := by
  have a0 := heap_setCell_same w g 0 _ 28 v0 h
  have a1 := heap_setCell_same _ g 1 _ 28 v1 a0
  have a2 := heap_setCell_same _ g 2 _ 28 v2 a1
  have a3 := heap_setCell_same _ g 3 _ 28 v3 a2
  have a4 := heap_setCell_same _ g 4 _ 28 v4 a3
  simpa using a4
/-- The format, as the reference has it; a number of the reference. -/
def wideV : Value := .agg #[.int .i64 53, .int .i64 (-1074), .int .i64 971]
def numV (ng inf : Bool) (M : Nat) (E : Int) : Value := .agg #[.bool ng, .bool inf, .bool false, .int .u64 (M : Nat), .int .i64 E]
def nearV (M : Nat) (E : Int) (ng : Bool) : Value := if 971 < rE M E then numV ng true 0 0 else numV ng false (rM M) (rE M E)
theorem q_great' {x y : Nat} (hx : 0 < x) (hy : 0 < y) (h : (55 : Int) < (sz x : Int) - (sz y : Int)) : 9007199254740992 ≤ x / y := by
  rw [Nat.le_div_iff_mul_le hy]
  have a := sz_lt y
  obtain ⟨b, c⟩ := sz_ge hx
  have d : 2 ^ 53 * 2 ^ sz y ≤ 2 ^ (sz x - 1) := by
    rw [← Nat.pow_add]
    exact Nat.pow_le_pow_right (by omega) (by omega)
  rw [p53] at d
  omega
theorem q_less {x y : Nat} (hy : 0 < y) (h : (sz x : Int) - (sz y : Int) ≤ 55) : x / y < 18446744073709551616 := by
  rw [Nat.div_lt_iff_lt_mul hy]
  have a := sz_lt x
  obtain ⟨b, c⟩ := sz_ge hy
  have d : 2 ^ sz x ≤ 2 ^ 56 * 2 ^ (sz y - 1) := by
    rw [← Nat.pow_add]
    exact Nat.pow_le_pow_right (by omega) (by omega)
  have e := Nat.mul_le_mul_left (2 ^ 56) b
  have f : (2 : Nat) ^ 56 = 72057594037927936 := rfl
  omega
theorem sA_pos {N : Nat} (h : 0 < N) (e : Int) : 0 < sA N e := Nat.mul_pos h (Nat.two_pow_pos _)
theorem fl_big {N D : Nat} {e : Int} (hN : 0 < N) (hD : 0 < D) (h : (55 : Int) < (sz (sA N e) : Int) - (sz (sB D e) : Int)) : 9007199254740992 ≤ fl N D e := by
  have := q_great' (sA_pos hN e) (sB_pos hD e) h
  exact this
/-- Where the search begins. -/
def e0 (N D : Nat) : Int := max ((sz N : Int) - (sz D : Int) - 54) (-1074)
theorem e0_ok {N D : Nat} (hN : 0 < N) (hD : 0 < D) : -1074 ≤ e0 N D ∧ (e0 N D = -1074 ∨ 9007199254740992 ≤ fl N D (e0 N D - 1)) := by
  refine ⟨by unfold e0; omega, ?_⟩
  by_cases h : e0 N D = -1074
  · exact .inl h
  · have := fl_ge (c := 53) (e := e0 N D - 1) hN hD (by unfold e0 at *; omega)
    rw [p53] at this
    exact .inr this
theorem e_le {N D : Nat} (hD : 0 < D) {e : Int} (h : e = -1074 ∨ 9007199254740992 ≤ fl N D (e - 1)) : e ≤ -1074 ∨ e ≤ (sz N : Int) - (sz D : Int) := by
  rcases h with h | h
  · exact .inl (by omega)
  · refine .inr (Int.not_lt.1 fun g => ?_)
    have := fl_lt (N := N) (c := 53) (e := e - 1) hD (by omega)
    rw [p53] at this
    omega
theorem fl_step {N D : Nat} (hD : 0 < D) (e : Int) (h : 9007199254740992 ≤ fl N D e) : fl N D (e + 1) < fl N D e := by
  have := fl_add hD e 1 (N := N)
  rw [show e + (1 : Nat) = e + 1 from rfl] at this
  omega
end Go.Proofs.YtpdjpjkieafnbaaGreatDoor.Li
set_option linter.unusedVariables false
set_option linter.unusedSimpArgs false
namespace Go.Proofs.YtpdjpjkieafnbaaGreatDoor.Li
open Go.RowKit Lb Nr
/-- The bits of a number of the reference, without its sign. -/
def nb (inf : Bool) (M : Nat) (E : Int) : Nat := if inf then 9218868437227405312 else if 4503599627370496 ≤ M then (E + 1075).toNat * 4503599627370496 + (M - 4503599627370496) else M
def sg (ng : Bool) : Nat := if ng then 9223372036854775808 else 0
theorem or_sign (x : Nat) (h : x < 9223372036854775808) : bits .or .u64 (x : Int) 9223372036854775808 = ((x + 9223372036854775808 : Nat) : Int) := by
  rw [show (9223372036854775808 : Int) = ((9223372036854775808 : Nat) : Int) from rfl, u64_or_nat x _ (by omega) (by omega), Nat.or_comm]
  have := Nat.two_pow_add_eq_or_of_lt (i := 63) (b := x) h 1
  rw [Nat.mul_one, show (2 : Nat) ^ 63 = 9223372036854775808 from rfl] at this
  rw [← this]
  omega
theorem or_low (k m : Nat) (hk : k < 2048) (hm : m < 4503599627370496) : bits .or .u64 ((k : Int) * 4503599627370496) (m : Int) = ((k * 4503599627370496 + m : Nat) : Int) := by
  rw [show (k : Int) * 4503599627370496 = ((k * 4503599627370496 : Nat) : Int) by omega, u64_or_nat _ _ (by omega) (by omega)]
  have := Nat.two_pow_add_eq_or_of_lt (i := 52) (b := m) hm k
  rw [show (2 : Nat) ^ 52 = 4503599627370496 from rfl, Nat.mul_comm] at this
  rw [← this]
theorem and_low (m : Nat) (h1 : 4503599627370496 ≤ m) (h2 : m < 9007199254740992) : bits .and .u64 (m : Int) 4503599627370495 = ((m - 4503599627370496 : Nat) : Int) := by
  rw [show (4503599627370495 : Int) = ((4503599627370495 : Nat) : Int) from rfl, u64_and_nat m _ (by omega) (by omega), show m &&& 4503599627370495 = m % 4503599627370496 from Nat.and_two_pow_sub_one_eq_mod m 52]
  omega
set_option maxRecDepth 100000 in
set_option maxHeartbeats 1000000 in
theorem Bits_any (ng inf : Bool) (M : Nat) (E : Int) (hM : M < 9007199254740992) (hE : -1074 ≤ E ∧ E ≤ 971) (w : World) :
    Calls Tryz.prog 55 #[numV ng inf M E, wideV] w fun e w' => e = .returned (.int .u64 (nb inf M E + sg ng : Nat)) ∧ Keep w w' := by
  have HB : Hid (nb inf M E = if inf then 9218868437227405312 else if 4503599627370496 ≤ M then (E + 1075).toNat * 4503599627370496 + (M - 4503599627370496) else M) := rfl
  have hlt : nb inf M E < 9223372036854775808 := by
    unfold nb
    split
    · omega
    · split <;> omega
  have hor := or_sign (nb inf M E) hlt
  unfold numV wideV
  generalize nb inf M E = X at *
  cases inf
  · by_cases h : 4503599627370496 ≤ M
    · have v := HB.out
      simp only [Bool.false_eq_true, if_false, if_pos h] at v
      obtain ⟨k, hk⟩ : ∃ k : Nat, E + 1075 = k := ⟨(E + 1075).toNat, by omega⟩
      have d1 : decide ((4503599627370496 : Int) ≤ (M : Int)) = true := decide_eq_true (by omega)
      have x1 : wrap64 (E + 1074) = E + 1074 := IntWalk.wrap64_in _ (by omega)
      have x2 : wrap64 (E + 1074 + 1) = (k : Int) := by rw [show E + 1074 + 1 = (k : Int) by omega]; exact IntWalk.wrap64_in _ (by omega)
      have x3 : IntKind.u64.wrap (k : Int) = (k : Int) := by rw [IntKind.wrap_u64]; omega
      have x4 : IntKind.u64.wrap ((k : Int) * 4503599627370496) = (k : Int) * 4503599627370496 := by rw [IntKind.wrap_u64]; omega
      have hk2 : E + 1074 + 1 = (k : Int) := by omega
      have x5 := and_low M h hM
      have x6 := or_low k (M - 4503599627370496) (by omega) (by omega)
      rw [show k * 4503599627370496 + (M - 4503599627370496) = X by rw [v, show (E + 1075).toNat = k by omega]] at x6
      obtain ⟨m, hm⟩ : ∃ m, M - 4503599627370496 = m := ⟨_, rfl⟩
      rw [hm] at x5 x6
      clear HB v hm h hM hlt hk
      cases ng
      all_goals
        unfold sg
        go_enter Tryz.func55, Tryz.ntmps55
        go_wp2_with fail
        go_ret
        exact ⟨ret_int (by first | rfl | omega | simp), ((Keep.refl w).alloc _).alloc _⟩
    · have v := HB.out
      simp only [Bool.false_eq_true, if_false, if_neg h] at v
      have d1 : decide ((4503599627370496 : Int) ≤ (M : Int)) = false := decide_eq_false (by omega)
      subst v
      clear HB h hM hlt
      cases ng
      all_goals
        unfold sg
        go_enter Tryz.func55, Tryz.ntmps55
        go_wp2_with fail
        go_ret
        exact ⟨ret_int (by first | rfl | omega | simp), ((Keep.refl w).alloc _).alloc _⟩
  · have v := HB.out
    simp only [if_true] at v
    subst v
    clear HB hlt
    cases ng
    all_goals
      unfold sg
      go_enter Tryz.func55, Tryz.ntmps55
      go_wp2_with fail
      go_ret
      exact ⟨ret_int (by first | rfl | omega | simp), ((Keep.refl w).alloc _).alloc _⟩
end Go.Proofs.YtpdjpjkieafnbaaGreatDoor.Li
set_option linter.unusedVariables false
set_option linter.unusedSimpArgs false
namespace Go.Proofs.YtpdjpjkieafnbaaGreatDoor.Li
open Go.RowKit Lb Nr
theorem exE {N D : Nat} (hN : 0 < N) (hD : 0 < D) : ∃ E, IsE N D E := by
  obtain ⟨_, d, _, _, h, _⟩ := main_E (e1 := max ((sz N : Int) - (sz D : Int) - 53) (-1074) - 2) hN hD rfl
  exact ⟨_, h⟩
set_option maxRecDepth 100000 in
set_option maxHeartbeats 400000 in
theorem nearest_zero (v1 v2 : Value) (D K : Nat) (w : World) (h1 : Lv w v1 0 K) (h2 : Lv w v2 D K) (hK : K ≤ 35184372087850) :
    Calls Tryz.prog 71 #[fmtV, v1, v2] w fun e w' => e = .returned (.int .u64 0) ∧ Keep w w' := by
  have L1 := fun wx (kx : Keep w wx) => Len_lv v1 0 K wx (h1.keep kx) (by omega)
  have L2 := fun wx (kx : Keep w wx) => Len_lv v2 D K wx (h2.keep kx) (by omega)
  have hbD : sz D ≤ 32 * K := sz_le (by rw [← word_pow]; exact h2.lt)
  have hw : wrap64 (0 - (sz D : Int)) = 0 - (sz D : Int) := IntWalk.wrap64_in _ (by omega)
  have s0 : sz 0 = 0 := rfl
  rw [s0] at L1
  unfold fmtV at *
  obtain ⟨w0, hw0, k0, tb⟩ : ∃ w0, w.alloc (Obj.cells #[.int .i64 52, .int .i64 2047, .int .i64 (-1074)] 85) = w0 ∧ Keep w w0 ∧ w0.heap[w.heap.size]? = some (Obj.cells #[.int .i64 52, .int .i64 2047, .int .i64 (-1074)] 85 (0, 0)) := ⟨_, rfl, (Keep.refl w).alloc _, heap_alloc_new w _⟩
  go_enter Tryz.func71, Tryz.ntmps71
  go_wp2_with fail
  refine (L1 _ k0).mono ?_
  rintro e wx ⟨rfl, rfl⟩
  go_wp2_with fail
  refine (L2 _ k0).mono ?_
  rintro e wx ⟨rfl, rfl⟩
  go_wp2_with fail
  refine (L1 _ k0).mono ?_
  rintro e wx ⟨rfl, rfl⟩
  go_wp2_with fail
  go_ret
  exact ⟨rfl, k0⟩
set_option maxRecDepth 100000 in
set_option maxHeartbeats 1000000 in
theorem pN_some (ng : Bool) (v1 v2 : Value) (N D K : Nat) (w : World) (h1 : Lv w v1 N K) (h2 : Lv w v2 D K) (hK : K ≤ 35184372087850) (hD : 0 < D) :
    Calls Tryz.prog 33 #[.agg #[.bool ng, v1, v2]] w fun e w' => ∃ x : Nat, e = .returned (.tuple #[.float .f64 x, .int .i64 0]) ∧ (N = 0 → x = 0) ∧ (0 < N → ∀ E, IsE N D E → x = wb (rup (sA N E) (sB D E)) E + sg ng) ∧ Keep w w' := by
  have L1 := fun wx (kx : Keep w wx) => Len_lv v1 N K wx (h1.keep kx) (by omega)
  have L2 := fun wx (kx : Keep w wx) => Len_lv v2 D K wx (h2.keep kx) (by omega)
  have hs2 : 0 < sz D := (sz_ge hD).2
  have hz2 : ((sz D : Int) == 0) = false := by rw [beq_eq_false_iff_ne]; omega
  have h11 := binary64_any
  have h13 := signBit_any
  have h14 := fun (x : Nat) wx => f64from x wx
  obtain ⟨x, hx63, hn, hx0, hxE⟩ : ∃ x : Nat, x < 9223372036854775808 ∧ (∀ wx, Keep w wx → Calls Tryz.prog 71 #[fmtV, v1, v2] wx fun e w' => e = .returned (.int .u64 (x : Nat)) ∧ Keep wx w') ∧ (N = 0 → x = 0) ∧ (0 < N → ∀ E, IsE N D E → x = wb (rup (sA N E) (sB D E)) E) := by
    rcases Nat.eq_zero_or_pos N with h | h
    · subst h
      exact ⟨0, by decide, fun wx kx => nearest_zero v1 v2 D K wx (h1.keep kx) (h2.keep kx) hK, fun _ => rfl, fun h => by omega⟩
    · obtain ⟨E, hE⟩ := exE h hD
      refine ⟨wb (rup (sA N E) (sB D E)) E, ?_, fun wx kx => ?_, fun h' => by omega, fun _ E' hE' => by rw [isE_one hD hE' hE]⟩
      · unfold wb; omega
      · refine (nearest_any v1 v2 N D K wx (h1.keep kx) (h2.keep kx) hK h hD).mono ?_
        rintro e w' ⟨y, rfl, hy, k⟩
        rw [hy E hE]
        exact ⟨rfl, k⟩
  have hor := or_sign x hx63
  have HX0 : Hid (N = 0 → x = 0) := hx0
  have HXE : Hid (0 < N → ∀ E, IsE N D E → x = wb (rup (sA N E) (sB D E)) E) := hxE
  clear hx0 hxE hx63 h1 h2
  unfold fmtV at hn
  obtain ⟨w0, hw0, k0, tb⟩ : ∃ w0, w.alloc (Obj.cells #[.bool ng, v1, v2] 54) = w0 ∧ Keep w w0 ∧ w0.heap[w.heap.size]? = some (Obj.cells #[.bool ng, v1, v2] 54 (0, 0)) := ⟨_, rfl, (Keep.refl w).alloc _, heap_alloc_new w _⟩
  have c0 := cell_of_row _ _ 0 _ 54 (0, 0) tb
  have c1 := cell_of_row _ _ 1 _ 54 (0, 0) tb
  have c2 := cell_of_row _ _ 2 _ 54 (0, 0) tb
  simp only [List.getElem?_toArray, List.getElem?_cons_zero, List.getElem?_cons_succ] at c0 c1 c2
  go_enter Tryz.func33, Tryz.ntmps33
  go_wp2_with fail
  refine (L2 _ k0).mono ?_
  rintro e wx ⟨rfl, rfl⟩
  go_wp2_with fail
  refine (h11 _).mono ?_
  rintro e w1 ⟨rfl, k1⟩
  have tb1 := (k1.block _ (Array.getElem?_eq_some_iff.1 tb).1).trans tb
  have hlt1 : w.heap.size < w1.heap.size := (Array.getElem?_eq_some_iff.1 tb1).1
  have d0 := cell_of_row _ _ 0 _ 54 (0, 0) tb1
  have d1 := cell_of_row _ _ 1 _ 54 (0, 0) tb1
  have d2 := cell_of_row _ _ 2 _ 54 (0, 0) tb1
  simp only [List.getElem?_toArray, List.getElem?_cons_zero, List.getElem?_cons_succ] at d0 d1 d2
  go_wp2_with fail
  refine (hn _ ((k0.trans k1).alloc _)).mono ?_
  rintro e w2 ⟨rfl, k2⟩
  have kA := ((k0.trans k1).alloc (Obj.cells #[Value.int IntKind.i64 52, Value.int IntKind.i64 2047, Value.int IntKind.i64 (-1074)] 85)).trans k2
  have tb2 := ((((Keep.refl w1).alloc (Obj.cells #[Value.int IntKind.i64 52, Value.int IntKind.i64 2047, Value.int IntKind.i64 (-1074)] 85)).trans k2).block _ hlt1).trans tb1
  have tf2 := (k2.block w1.heap.size (by simp)).trans (heap_alloc_new w1 _)
  clear d0 d1 d2 c0 c1 c2
  have d0 := cell_of_row _ _ 0 _ 54 (0, 0) tb2
  have d1 := cell_of_row _ _ 1 _ 54 (0, 0) tb2
  have d2 := cell_of_row _ _ 2 _ 54 (0, 0) tb2
  have f0 := cell_of_row _ _ 0 _ 85 (0, 0) tf2
  have f1 := cell_of_row _ _ 1 _ 85 (0, 0) tf2
  have f2 := cell_of_row _ _ 2 _ 85 (0, 0) tf2
  simp only [List.getElem?_toArray, List.getElem?_cons_zero, List.getElem?_cons_succ] at d0 d1 d2 f0 f1 f2
  have L1' := L1 w2 kA
  clear L1 L2 hn h11
  cases ng
  · go_wp2_with fail
    go_ret2
    refine ⟨x, rfl, HX0.out, fun h E hE => ?_, kA⟩
    rw [HXE.out h E hE]
    rfl
  · rcases Nat.eq_zero_or_pos N with h | h
    · have s0 : sz N = 0 := by rw [h]; rfl
      rw [s0] at L1'
      replace h : Hid _ := h
      clear s0
      go_wp2_with fail
      refine L1'.mono ?_
      rintro e wx ⟨rfl, rfl⟩
      go_wp2_with fail
      go_ret2
      exact ⟨x, rfl, HX0.out, fun h' E hE => by have := h.out; omega, kA⟩
    · have hs1 : 0 < sz N := (sz_ge h).2
      have h13' := h13 w2
      have h14' : ∀ wx, (callFunc 19 #[.int .u64 ((x : Int) + 9223372036854775808)]).run Tryz.prog wx = .ok (.value (.float .f64 (x + 9223372036854775808))) wx := by
        intro wx
        rw [show (x : Int) + 9223372036854775808 = ((x + 9223372036854775808 : Nat) : Int) by omega]
        exact f64from _ wx
      go_wp2_with fail
      refine L1'.mono ?_
      rintro e wx ⟨rfl, rfl⟩
      go_wp2_with fail
      refine h13'.mono ?_
      rintro e w3 ⟨rfl, k3⟩
      go_wp2_with fail
      go_ret2
      refine ⟨x + 9223372036854775808, rfl, fun h' => by omega, fun h' E hE => ?_, kA.trans k3⟩
      rw [HXE.out h' E hE]
      rfl
end Go.Proofs.YtpdjpjkieafnbaaGreatDoor.Li
