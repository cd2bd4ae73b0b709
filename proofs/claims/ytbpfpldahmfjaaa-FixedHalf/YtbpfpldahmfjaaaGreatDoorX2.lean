import Derived.Test.YtbpfpldahmfjaaaGreatDoorFBM
import Derived.Test.YtbpfpldahmfjaaaGreatDoorGA9
set_option linter.unusedVariables false
set_option linter.unusedSimpArgs false
namespace Go.Proofs.YtbpfpldahmfjaaaGreatDoor
open Go.RowKit Go.Shelf
theorem half_good : rGood [48, 46, 53] := ⟨by decide +kernel, by decide +kernel⟩
theorem half_read (V E K : Int) (h : RdA [48, 46, 53] V E K) : V = 500000 ∧ E = 0 ∧ K = 0 := by
  obtain ⟨a, b, c⟩ := h.good half_good
  refine ⟨?_, ?_, c⟩
  · rw [a]; decide +kernel
  · rw [b]; decide +kernel
theorem half_print : prt 500000 = [48, 46, 53] := by
  have e : dD 500000 = [53, 48, 48, 48, 48, 48] := by
    rw [dD_step (by omega), dD_step (by omega), dD_step (by omega), dD_step (by omega), dD_step (by omega), dD_small (by omega)]
    decide +kernel
  unfold prt
  rw [show (500000 : Int).natAbs = 500000 from rfl, show 500000 / 1000000 = 0 from rfl, show 500000 % 1000000 = 500000 from rfl, e, dD_small (by omega)]
  decide +kernel
theorem half_scale : Sc.scV (Sc.ngB 500000 1 3) ((500000 : Int).natAbs * (1 : Int).natAbs) (3 : Int).natAbs = 166667 ∧ Sc.scE (Sc.ngB 500000 1 3) ((500000 : Int).natAbs * (1 : Int).natAbs) (3 : Int).natAbs = 0 := by
  constructor <;> decide +kernel
set_option maxRecDepth 100000 in
set_option maxHeartbeats 800000 in
theorem begins_of (hFl : ∀ wx, Calls Tryz.prog 20 #[.int .i64 500000] wx fun e w' => e = .returned (.float .f64 4602678819172646912) ∧ Keep wx w') (w : World) (hT : Tb w) :
    Calls Tryz.prog 6 #[] w fun e w' => e = .returned (.bool true) ∧ Keep w w' := by
  have h7 : ∀ wx, Calls Tryz.prog 7 #[.string ⟨#[48, 46, 53]⟩] wx fun e w' => e = .returned (.tuple #[.int .i64 500000, .int .i64 0, .int .i64 0]) ∧ Keep wx w' := fun wx => by
    refine (Read_any [48, 46, 53] wx (by decide)).mono ?_
    rintro e w' ⟨⟨V, E, K, rfl, h⟩, k⟩
    obtain ⟨rfl, rfl, rfl⟩ := half_read V E K h
    exact ⟨rfl, k⟩
  have h8 : ∀ wx, Keep w wx → Calls Tryz.prog 8 #[.int .i64 500000] wx fun e w' => e = .returned (.string ⟨#[48, 46, 53]⟩) ∧ Keep wx w' := fun wx k => by
    have a := Print_any 500000 wx (by unfold I64; omega) (keep_tab hT k)
    rw [half_print] at a
    exact a
  have h12 : ∀ wx, Calls Tryz.prog 12 #[.int .i64 500000, .int .i64 1, .int .i64 3] wx fun e w' => e = .returned (.tuple #[.int .i64 166667, .int .i64 0]) ∧ Keep wx w' := fun wx => by
    have a := Sc.Scale_some 500000 1 3 (by unfold Sc.I64; omega) (by unfold Sc.I64; omega) (by unfold Sc.I64; omega) (by omega) wx
    rw [half_scale.1, half_scale.2] at a
    exact a
  go_enter Tryz.func6, Tryz.ntmps6
  go_wp2_with (first
    | (go_at_call 7; refine (h7 _).mono ?_; rintro e w1 ⟨rfl, k1⟩; have K1 : Hid (Keep w w1) := k1; clear k1)
    | (go_at_call 12; refine (h12 _).mono ?_; rintro e w2 ⟨rfl, k2⟩; have K2 : Hid (Keep w w2) := K1.out.trans k2; clear k2)
    | (go_at_call 8; refine (h8 _ K2.out).mono ?_; rintro e w3 ⟨rfl, k3⟩; have K3 : Hid (Keep w w3) := K2.out.trans k3; clear k3)
    | (go_at_call 20; refine (hFl _).mono ?_; rintro e w4 ⟨rfl, k4⟩; have K4 : Hid (Keep w w4) := K3.out.trans k4; clear k4))
  go_ret
  exact ⟨rfl, K4.out⟩
end Go.Proofs.YtbpfpldahmfjaaaGreatDoor
