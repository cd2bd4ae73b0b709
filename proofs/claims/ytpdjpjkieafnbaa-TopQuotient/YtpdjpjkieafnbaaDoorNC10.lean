import Derived.Test.YtpdjpjkieafnbaaDoorNB2
import Derived.Test.YtpdjpjkieafnbaaDoorProg
import Derived.Test.YtpdjpjkieafnbaaDoorLE7
import Derived.Test.YtpdjpjkieafnbaaDoorLE6
import Derived.Test.YtpdjpjkieafnbaaDoorShelf
import Derived.WalkKit
import Derived.WalkSpells
import Derived.WalkLawsBesides
import Derived.Laws.CopyOwn
import Derived.Deep.Draws
import Derived.Deep.QuietTactic
import Derived.BigQuiet
import Derived.Laws.MathBits
import Derived.Laws.BytesArg
import Derived.Lib.OthersKept
import Derived.Deep.RegionWith
import Derived.WalkMore
import Derived.Deep.LoopGhost
import Derived.Laws.Externs
import Derived.Deep.Cut
import Derived.Deep.CutRange
import Derived.Deep.CutBlock
import Derived.Test.YtpdjpjkieafnbaaDoorNC4
import Derived.Deep.RegionHeld3
set_option linter.unusedVariables false
set_option linter.unusedSimpArgs false
namespace Go.Proofs.YtpdjpjkieafnbaaDoor.Li
open Go.RowKit Lb Nr
def sg (ng : Bool) : Nat := if ng then 9223372036854775808 else 0
theorem or_sign (x : Nat) (h : x < 9223372036854775808) : bits .or .u64 (x : Int) 9223372036854775808 = ((x + 9223372036854775808 : Nat) : Int) := by
  rw [show (9223372036854775808 : Int) = ((9223372036854775808 : Nat) : Int) from rfl, u64_or_nat x _ (by omega) (by omega), Nat.or_comm]
  have := Nat.two_pow_add_eq_or_of_lt (i := 63) (b := x) h 1
  rw [Nat.mul_one, show (2 : Nat) ^ 63 = 9223372036854775808 from rfl] at this
  rw [← this]
  omega
end Go.Proofs.YtpdjpjkieafnbaaDoor.Li
set_option linter.unusedVariables false
set_option linter.unusedSimpArgs false
namespace Go.Proofs.YtpdjpjkieafnbaaDoor.Li
open Go.RowKit Lb Nr
theorem exE {N D : Nat} (hN : 0 < N) (hD : 0 < D) : ∃ E, IsE N D E := by
  obtain ⟨_, d, _, _, h, _⟩ := main_E (e1 := max ((sz N : Int) - (sz D : Int) - 53) (-1074) - 2) hN hD rfl
  exact ⟨_, h⟩
set_option maxRecDepth 100000 in
set_option maxHeartbeats 400000 in
theorem nearest_zero (v1 v2 : Value) (D K : Nat) (w : World) (h1 : Lv w v1 0 K) (h2 : Lv w v2 D K) (hK : K ≤ 35184372087850) :
    Calls Tryd.prog 24 #[fmtV, v1, v2] w fun e w' => e = .returned (.int .u64 0) ∧ Keep w w' := by
  have L1 := fun wx (kx : Keep w wx) => Len_lv v1 0 K wx (h1.keep kx) (by omega)
  have L2 := fun wx (kx : Keep w wx) => Len_lv v2 D K wx (h2.keep kx) (by omega)
  have hbD : sz D ≤ 32 * K := sz_le (by rw [← word_pow]; exact h2.lt)
  have hw : wrap64 (0 - (sz D : Int)) = 0 - (sz D : Int) := IntWalk.wrap64_in _ (by omega)
  have s0 : sz 0 = 0 := rfl
  rw [s0] at L1
  unfold fmtV at *
  obtain ⟨w0, hw0, k0, tb⟩ : ∃ w0, w.alloc (Obj.cells #[.int .i64 52, .int .i64 2047, .int .i64 (-1074)] 45) = w0 ∧ Keep w w0 ∧ w0.heap[w.heap.size]? = some (Obj.cells #[.int .i64 52, .int .i64 2047, .int .i64 (-1074)] 45 (0, 0)) := ⟨_, rfl, (Keep.refl w).alloc _, heap_alloc_new w _⟩
  go_enter Tryd.func24, Tryd.ntmps24
  go_wp2_with fail
  refine (L1 _ k0).mono ?_
  rintro e wx ⟨rfl, rfl⟩
  go_wp2_with fail
  refine (L2 _ k0).mono ?_
  rintro e wx ⟨rfl, rfl⟩
  go_wp2_with fail
  refine (L1 _ k0).mono ?_
  rintro e wx ⟨rfl, rfl⟩
  go_wp2_with fail
  go_ret
  exact ⟨rfl, k0⟩
set_option maxRecDepth 100000 in
set_option maxHeartbeats 1000000 in
theorem pN_some (ng : Bool) (v1 v2 : Value) (N D K : Nat) (w : World) (h1 : Lv w v1 N K) (h2 : Lv w v2 D K) (hK : K ≤ 35184372087850) (hD : 0 < D) :
    Calls Tryd.prog 11 #[.agg #[.bool ng, v1, v2]] w fun e w' => ∃ x : Nat, e = .returned (.tuple #[.float .f64 x, .int .i64 0]) ∧ (N = 0 → x = 0) ∧ (0 < N → ∀ E, IsE N D E → x = wb (rup (sA N E) (sB D E)) E + sg ng) ∧ Keep w w' := by
  have L1 := fun wx (kx : Keep w wx) => Len_lv v1 N K wx (h1.keep kx) (by omega)
  have L2 := fun wx (kx : Keep w wx) => Len_lv v2 D K wx (h2.keep kx) (by omega)
  have hs2 : 0 < sz D := (sz_ge hD).2
  have hz2 : ((sz D : Int) == 0) = false := by rw [beq_eq_false_iff_ne]; omega
  have h11 := binary64_any
  have h13 := signBit_any
  have h14 := fun (x : Nat) wx => f64from x wx
  obtain ⟨x, hx63, hn, hx0, hxE⟩ : ∃ x : Nat, x < 9223372036854775808 ∧ (∀ wx, Keep w wx → Calls Tryd.prog 24 #[fmtV, v1, v2] wx fun e w' => e = .returned (.int .u64 (x : Nat)) ∧ Keep wx w') ∧ (N = 0 → x = 0) ∧ (0 < N → ∀ E, IsE N D E → x = wb (rup (sA N E) (sB D E)) E) := by
    rcases Nat.eq_zero_or_pos N with h | h
    · subst h
      exact ⟨0, by decide, fun wx kx => nearest_zero v1 v2 D K wx (h1.keep kx) (h2.keep kx) hK, fun _ => rfl, fun h => by omega⟩
    · obtain ⟨E, hE⟩ := exE h hD
      refine ⟨wb (rup (sA N E) (sB D E)) E, ?_, fun wx kx => ?_, fun h' => by omega, fun _ E' hE' => by rw [isE_one hD hE' hE]⟩
      · unfold wb; omega
      · refine (nearest_any v1 v2 N D K wx (h1.keep kx) (h2.keep kx) hK h hD).mono ?_
        rintro e w' ⟨y, rfl, hy, k⟩
        rw [hy E hE]
        exact ⟨rfl, k⟩
  have hor := or_sign x hx63
  have HX0 : Hid (N = 0 → x = 0) := hx0
  have HXE : Hid (0 < N → ∀ E, IsE N D E → x = wb (rup (sA N E) (sB D E)) E) := hxE
  clear hx0 hxE hx63 h1 h2
  unfold fmtV at hn
  obtain ⟨w0, hw0, k0, tb⟩ : ∃ w0, w.alloc (Obj.cells #[.bool ng, v1, v2] 38) = w0 ∧ Keep w w0 ∧ w0.heap[w.heap.size]? = some (Obj.cells #[.bool ng, v1, v2] 38 (0, 0)) := ⟨_, rfl, (Keep.refl w).alloc _, heap_alloc_new w _⟩
  have c0 := cell_of_row _ _ 0 _ 38 (0, 0) tb
  have c1 := cell_of_row _ _ 1 _ 38 (0, 0) tb
  have c2 := cell_of_row _ _ 2 _ 38 (0, 0) tb
  simp only [List.getElem?_toArray, List.getElem?_cons_zero, List.getElem?_cons_succ] at c0 c1 c2
  go_enter Tryd.func11, Tryd.ntmps11
  go_wp2_with fail
  refine (L2 _ k0).mono ?_
  rintro e wx ⟨rfl, rfl⟩
  go_wp2_with fail
  refine (h11 _).mono ?_
  rintro e w1 ⟨rfl, k1⟩
  have tb1 := (k1.block _ (Array.getElem?_eq_some_iff.1 tb).1).trans tb
  have hlt1 : w.heap.size < w1.heap.size := (Array.getElem?_eq_some_iff.1 tb1).1
  have d0 := cell_of_row _ _ 0 _ 38 (0, 0) tb1
  have d1 := cell_of_row _ _ 1 _ 38 (0, 0) tb1
  have d2 := cell_of_row _ _ 2 _ 38 (0, 0) tb1
  simp only [List.getElem?_toArray, List.getElem?_cons_zero, List.getElem?_cons_succ] at d0 d1 d2
  go_wp2_with fail
  refine (hn _ ((k0.trans k1).alloc _)).mono ?_
  rintro e w2 ⟨rfl, k2⟩
  have kA := ((k0.trans k1).alloc (Obj.cells #[Value.int IntKind.i64 52, Value.int IntKind.i64 2047, Value.int IntKind.i64 (-1074)] 45)).trans k2
  have tb2 := ((((Keep.refl w1).alloc (Obj.cells #[Value.int IntKind.i64 52, Value.int IntKind.i64 2047, Value.int IntKind.i64 (-1074)] 45)).trans k2).block _ hlt1).trans tb1
  have tf2 := (k2.block w1.heap.size (by simp)).trans (heap_alloc_new w1 _)
  clear d0 d1 d2 c0 c1 c2
  have d0 := cell_of_row _ _ 0 _ 38 (0, 0) tb2
  have d1 := cell_of_row _ _ 1 _ 38 (0, 0) tb2
  have d2 := cell_of_row _ _ 2 _ 38 (0, 0) tb2
  have f0 := cell_of_row _ _ 0 _ 45 (0, 0) tf2
  have f1 := cell_of_row _ _ 1 _ 45 (0, 0) tf2
  have f2 := cell_of_row _ _ 2 _ 45 (0, 0) tf2
  simp only [List.getElem?_toArray, List.getElem?_cons_zero, List.getElem?_cons_succ] at d0 d1 d2 f0 f1 f2
  have L1' := L1 w2 kA
  clear L1 L2 hn h11
  cases ng
  · go_wp2_with fail
    go_ret2
    refine ⟨x, rfl, HX0.out, fun h E hE => ?_, kA⟩
    rw [HXE.out h E hE]
    rfl
  · rcases Nat.eq_zero_or_pos N with h | h
    · have s0 : sz N = 0 := by rw [h]; rfl
      rw [s0] at L1'
      replace h : Hid _ := h
      clear s0
      go_wp2_with fail
      refine L1'.mono ?_
      rintro e wx ⟨rfl, rfl⟩
      go_wp2_with fail
      go_ret2
      exact ⟨x, rfl, HX0.out, fun h' E hE => by have := h.out; omega, kA⟩
    · have hs1 : 0 < sz N := (sz_ge h).2
      have h13' := h13 w2
      have h14' : ∀ wx, (callFunc 15 #[.int .u64 ((x : Int) + 9223372036854775808)]).run Tryd.prog wx = .ok (.value (.float .f64 (x + 9223372036854775808))) wx := by
        intro wx
        rw [show (x : Int) + 9223372036854775808 = ((x + 9223372036854775808 : Nat) : Int) by omega]
        exact f64from _ wx
      go_wp2_with fail
      refine L1'.mono ?_
      rintro e wx ⟨rfl, rfl⟩
      go_wp2_with fail
      refine h13'.mono ?_
      rintro e w3 ⟨rfl, k3⟩
      go_wp2_with fail
      go_ret2
      refine ⟨x + 9223372036854775808, rfl, fun h' => by omega, fun h' E hE => ?_, kA.trans k3⟩
      rw [HXE.out h' E hE]
      rfl
end Go.Proofs.YtpdjpjkieafnbaaDoor.Li
