import Derived.Test.YtgjhbolnnnibkaaGreatDoorFLW
import Derived.Test.YtgjhbolnnnibkaaGreatDoorGA9
import Derived.Test.YtgjhbolnnnibkaaGreatDoorE12
import Derived.Test.YtgjhbolnnnibkaaGreatDoorOF
set_option linter.unusedVariables false
set_option linter.unusedSimpArgs false
namespace Go.Proofs.YtgjhbolnnnibkaaGreatDoor
open Go.RowKit Go.Shelf
theorem half_good : rGood [48, 46, 53] := ⟨by decide +kernel, by decide +kernel⟩
theorem half_read (V E K : Int) (h : RdA [48, 46, 53] V E K) : V = 500000 ∧ E = 0 ∧ K = 0 := by
  obtain ⟨a, b, c⟩ := h.good half_good
  refine ⟨?_, ?_, c⟩
  · rw [a]; decide +kernel
  · rw [b]; decide +kernel
theorem half_print : prt 500000 = [48, 46, 53] := by
  have e : dD 500000 = [53, 48, 48, 48, 48, 48] := by
    rw [dD_step (by omega), dD_step (by omega), dD_step (by omega), dD_step (by omega), dD_step (by omega), dD_small (by omega)]
    decide +kernel
  unfold prt
  rw [show (500000 : Int).natAbs = 500000 from rfl, show 500000 / 1000000 = 0 from rfl, show 500000 % 1000000 = 500000 from rfl, e, dD_small (by omega)]
  decide +kernel
theorem half_scale : Sc.scV (Sc.ngB 500000 1 3) ((500000 : Int).natAbs * (1 : Int).natAbs) (3 : Int).natAbs = 166667 ∧ Sc.scE (Sc.ngB 500000 1 3) ((500000 : Int).natAbs * (1 : Int).natAbs) (3 : Int).natAbs = 0 := by
  constructor <;> decide +kernel
set_option maxRecDepth 100000 in
set_option maxHeartbeats 800000 in
theorem begins_of (hFl : ∀ wx, Calls Tryz.prog 10 #[.int .i64 500000] wx fun e w' => e = .returned (.float .f64 4602678819172646912) ∧ Keep wx w') (w : World) (hT : Tb w) :
    Calls Tryz.prog 16 #[] w fun e w' => e = .returned (.bool true) ∧ Keep w w' := by
  have h7 : ∀ wx, Calls Tryz.prog 34 #[.string ⟨#[48, 46, 53]⟩] wx fun e w' => e = .returned (.tuple #[.int .i64 500000, .int .i64 0, .int .i64 0]) ∧ Keep wx w' := fun wx => by
    refine (Read_any [48, 46, 53] wx (by decide)).mono ?_
    rintro e w' ⟨⟨V, E, K, rfl, h⟩, k⟩
    obtain ⟨rfl, rfl, rfl⟩ := half_read V E K h
    exact ⟨rfl, k⟩
  have h8 : ∀ wx, Keep w wx → Calls Tryz.prog 36 #[.int .i64 500000] wx fun e w' => e = .returned (.string ⟨#[48, 46, 53]⟩) ∧ Keep wx w' := fun wx k => by
    have a := Print_any 500000 wx (by unfold I64; omega) (keep_tab hT k)
    rw [half_print] at a
    exact a
  have h12 : ∀ wx, Calls Tryz.prog 35 #[.int .i64 500000, .int .i64 1, .int .i64 3] wx fun e w' => e = .returned (.tuple #[.int .i64 166667, .int .i64 0]) ∧ Keep wx w' := fun wx => by
    have a := Sc.Scale_some 500000 1 3 (by unfold Sc.I64; omega) (by unfold Sc.I64; omega) (by unfold Sc.I64; omega) (by omega) wx
    rw [half_scale.1, half_scale.2] at a
    exact a
  go_enter Tryz.func16, Tryz.ntmps16
  go_wp2_with (first
    | (go_at_call 34; refine (h7 _).mono ?_; rintro e w1 ⟨rfl, k1⟩; have K1 : Hid (Keep w w1) := k1; clear k1)
    | (go_at_call 35; refine (h12 _).mono ?_; rintro e w2 ⟨rfl, k2⟩; have K2 : Hid (Keep w w2) := K1.out.trans k2; clear k2)
    | (go_at_call 36; refine (h8 _ K2.out).mono ?_; rintro e w3 ⟨rfl, k3⟩; have K3 : Hid (Keep w w3) := K2.out.trans k3; clear k3)
    | (go_at_call 10; refine (hFl _).mono ?_; rintro e w4 ⟨rfl, k4⟩; have K4 : Hid (Keep w w4) := K3.out.trans k4; clear k4))
  go_ret
  exact ⟨rfl, K4.out⟩
end Go.Proofs.YtgjhbolnnnibkaaGreatDoor
set_option linter.unusedVariables false
set_option linter.unusedSimpArgs false
namespace Go.Proofs.YtgjhbolnnnibkaaGreatDoor.Li
open Go.RowKit Lb Nr
theorem isE_half : IsE 500000 1000000 (-53) := by
  unfold IsE fl sA sB
  decide +kernel
theorem Float_half (w : World) : Calls Tryz.prog 10 #[.int .i64 500000] w fun e w' => e = .returned (.float .f64 4602678819172646912) ∧ Keep w w' := by
  refine (Float_fb 500000 w (by omega)).mono ?_
  rintro e w' ⟨x, rfl, h, k⟩
  have hx : x = 4602678819172646912 := by
    rw [h.2 (by omega) (-53) isE_half]
    decide +kernel
  subst hx
  exact ⟨rfl, k⟩
end Go.Proofs.YtgjhbolnnnibkaaGreatDoor.Li
namespace Go.Proofs.YtgjhbolnnnibkaaGreatDoor
open Go.RowKit
theorem begins_any (w : World) (hT : Tb w) : Calls Tryz.prog 16 #[] w fun e w' => e = .returned (.bool true) ∧ Li.Keep w w' := begins_of (fun wx => Li.Float_half wx) w hT
end Go.Proofs.YtgjhbolnnnibkaaGreatDoor
set_option linter.unusedVariables false
set_option linter.unusedSimpArgs false
namespace Go.Proofs.YtgjhbolnnnibkaaGreatDoor
open Go.ChangeShapes Go.WideShapes Go.ChangeAt Go.RowKit
theorem gtab : Tryz.prog.globalNamed "internal/strconv.uint64pow10" = some 4 := by kernel_rfl
theorem ltab : (Rows.laid_internal_strconv_uint64pow10 : DataW Unit) = Lib.tabData .u64 Lib.pow10Tab := by kernel_rfl
/-- The library's two tables, from what the row says of them: they stand third and second. -/
theorem tab_of {W : World} (h : laidMet Tryz.prog [("math/bits.deBruijn32tab", Rows.laid_math_bits_deBruijn32tab), ("math/bits.deBruijn64tab", Rows.laid_math_bits_deBruijn64tab), ("internal/strconv.uint64pow10", Rows.laid_internal_strconv_uint64pow10), ("unicode/utf8.acceptRanges", Rows.laid_unicode_utf8_acceptRanges), ("unicode/utf8.first", Rows.laid_unicode_utf8_first)] W) : Tb W := by
  rw [ltab] at h
  obtain ⟨ps, ⟨_, _, _, _, _, q, _, _, _, _, ⟨_, _, _, _, _, q2, _, _, _, _, ⟨g', t', cs, fuel, p', q', hg', ht', hvar, hd, _, _⟩, _⟩, _⟩, _⟩ := h
  obtain rfl := Option.some.inj (gtab.symm.trans hg')
  have hty : (Tryz.prog.globals[4]?).map (·.type) = some 173 := by kernel_rfl
  obtain rfl := Option.some.inj (hty.symm.trans ht')
  unfold Tb Lib.TabIs
  rw [hvar, ← Lib.cells_of_tab Tryz.underlying173 Tryz.underlying22 (by kernel_rfl) (by kernel_rfl) hd]
theorem tab64_of5 {W : World} (h : laidMet Tryz.prog [("math/bits.deBruijn32tab", Rows.laid_math_bits_deBruijn32tab), ("math/bits.deBruijn64tab", Rows.laid_math_bits_deBruijn64tab), ("internal/strconv.uint64pow10", Rows.laid_internal_strconv_uint64pow10), ("unicode/utf8.acceptRanges", Rows.laid_unicode_utf8_acceptRanges), ("unicode/utf8.first", Rows.laid_unicode_utf8_first)] W) : Bi.Tab W := by
  rw [ltab64] at h
  obtain ⟨ps, ⟨_, _, _, _, _, q, _, _, _, _, ⟨g', t', cs, fuel, p', q', hg', ht', hvar, hd, _, _⟩, _⟩, _⟩ := h
  obtain rfl := Option.some.inj (gtab64.symm.trans hg')
  have hty : (Tryz.prog.globals[3]?).map (·.type) = some 138 := by kernel_rfl
  obtain rfl := Option.some.inj (hty.symm.trans ht')
  have h1 : Lib.TabIs Tryz.prog W "math/bits.deBruijn64tab" .u8 (Lib.deBruijn64tab.map fun n : Nat => (n : Int)) := by
    unfold Lib.TabIs
    rw [hvar, ← Lib.cells_of_tab Tryz.underlying138 Tryz.underlying5 (by kernel_rfl) (by kernel_rfl) hd]
  intro j hj
  have := h1.cell gtab64 j (by simpa using hj)
  rw [this]
  simp [List.getD, hj]
end Go.Proofs.YtgjhbolnnnibkaaGreatDoor
