import Derived.Test.YtmhgpgdekaeegaaDoorProg
import Derived.Test.YtmhgpgdekaeegaaDoorBB4
import Derived.Test.YtmhgpgdekaeegaaDoorBPop
import Derived.WalkKit
import Derived.WalkSpells
import Derived.WalkLawsBesides
import Derived.Laws.CopyOwn
import Derived.Deep.Draws
import Derived.Deep.QuietTactic
import Derived.BigQuiet
import Derived.Deep.RegionWith
import Derived.Deep.RegionHeld3
import Derived.Shelf.Strconv.Itoa0
import Derived.Shelf.Spec.TrailingZeros
set_option linter.unusedVariables false
set_option linter.unusedSimpArgs false
namespace Go.Proofs.YtmhgpgdekaeegaaDoor.Bi
open Go.RowKit
theorem and_le_r (x y : Nat) : x &&& y ≤ y := Nat.and_le_right
/-- What OnesCount64 reckons, step by step. -/
theorem ones_steps (x : Nat) (hx : x < 18446744073709551616) : ∃ u1 u2 A v1 v2 B D C Y Z F : Nat,
    bits .and .u64 ((x : Int) / 2) 6148914691236517205 = (u1 : Int) ∧ bits .and .u64 (x : Int) 6148914691236517205 = (u2 : Int) ∧ IntKind.u64.wrap ((u1 : Int) + (u2 : Int)) = (A : Int) ∧
    bits .and .u64 ((A : Int) / 4) 3689348814741910323 = (v1 : Int) ∧ bits .and .u64 (A : Int) 3689348814741910323 = (v2 : Int) ∧ IntKind.u64.wrap ((v1 : Int) + (v2 : Int)) = (B : Int) ∧
    IntKind.u64.wrap ((B : Int) / 16 + (B : Int)) = (D : Int) ∧ bits .and .u64 (D : Int) 1085102592571150095 = (C : Int) ∧
    IntKind.u64.wrap ((C : Int) + (C : Int) / 256) = (Y : Int) ∧ IntKind.u64.wrap ((Y : Int) + (Y : Int) / 65536) = (Z : Int) ∧ IntKind.u64.wrap ((Z : Int) + (Z : Int) / 4294967296) = (F : Int) ∧ F < 9223372036854775808 ∧ F % 128 = pcn 64 x := by
  have l1 := and_le_r (x / 2) 6148914691236517205
  have l2 := and_le_r x 6148914691236517205
  have hA : sA 8 x = (x / 2 &&& 6148914691236517205) + (x &&& 6148914691236517205) := by unfold sA; rw [m0_8]
  have g1 := and_le_r (sA 8 x / 4) 3689348814741910323
  have g2 := and_le_r (sA 8 x) 3689348814741910323
  have hB : sB 8 (sA 8 x) = (sA 8 x / 4 &&& 3689348814741910323) + (sA 8 x &&& 3689348814741910323) := by unfold sB; rw [m1_8]
  have hC : T 8 x = (sB 8 (sA 8 x) / 16 + sB 8 (sA 8 x)) &&& 1085102592571150095 := by unfold T sC; rw [m2_8]
  have hf := fold8 _ _ _ _ _ _ _ _ (T 8 x) (pcn_le 8 x) (pcn_le 8 (x / 256)) (pcn_le 8 (x / 65536)) (pcn_le 8 (x / 16777216)) (pcn_le 8 (x / 4294967296)) (pcn_le 8 (x / 1099511627776)) (pcn_le 8 (x / 281474976710656)) (pcn_le 8 (x / 72057594037927936)) (ones64 x)
  rw [← pcn64] at hf
  have cast1 : ((6148914691236517205 : Nat) : Int) = 6148914691236517205 := rfl
  have cast2 : ((3689348814741910323 : Nat) : Int) = 3689348814741910323 := rfl
  have cast3 : ((1085102592571150095 : Nat) : Int) = 1085102592571150095 := rfl
  have bB : sB 8 (sA 8 x) ≤ 7378697629483820646 := by omega
  have bA : sA 8 x ≤ 12297829382473034410 := by omega
  refine ⟨x / 2 &&& 6148914691236517205, x &&& 6148914691236517205, sA 8 x, sA 8 x / 4 &&& 3689348814741910323, sA 8 x &&& 3689348814741910323, sB 8 (sA 8 x), sB 8 (sA 8 x) / 16 + sB 8 (sA 8 x), T 8 x, T 8 x + T 8 x / 256, T 8 x + T 8 x / 256 + (T 8 x + T 8 x / 256) / 65536, _, ?_, ?_, ?_, ?_, ?_, ?_, ?_, ?_, ?_, ?_, ?_, hf.2, hf.1⟩
  · rw [← cast1]; exact u64_and_nat (x / 2) _ (by omega) (by omega)
  · rw [← cast1]; exact u64_and_nat x _ hx (by omega)
  · rw [IntKind.wrap_u64]; omega
  · rw [← cast2]; exact u64_and_nat (sA 8 x / 4) _ (by omega) (by omega)
  · rw [← cast2]; exact u64_and_nat (sA 8 x) _ (by omega) (by omega)
  · rw [IntKind.wrap_u64]; omega
  · rw [IntKind.wrap_u64]; omega
  · rw [← cast3, hC]; exact u64_and_nat _ _ (by omega) (by omega)
  · rw [IntKind.wrap_u64]; omega
  · rw [IntKind.wrap_u64]; omega
  · rw [IntKind.wrap_u64]; omega
theorem and127 (F : Nat) (h : F < 9223372036854775808) : bits .and .i64 (F : Int) 127 = ((F % 128 : Nat) : Int) := by
  have := bits_mask .i64 63 (by decide) (fun n h0 h1 => by rw [IntKind.wrap_i64]; omega) 7 (by decide) (F : Int) (by omega) (by omega)
  rw [show (2 : Int) ^ 7 - 1 = 127 by decide, show (2 : Int) ^ 7 = 128 by decide] at this
  rw [this]; omega
set_option maxRecDepth 100000 in
theorem Ones_any (x : Nat) (w : World) (hx : x < 18446744073709551616) :
    Calls Tryd.prog 17 #[.int .u64 (x : Nat)] w fun e w' => e = .returned (.int .i64 (pcn 64 x : Nat)) ∧ w' = w := by
  obtain ⟨u1, u2, A, v1, v2, B, D, C, Y, Z, F, e1, e2, e3, e4, e5, e6, e7, e8, e9, f1, f2, hF, hp⟩ := ones_steps x hx
  have Hp : Hid (F % 128 = pcn 64 x) := hp
  clear hp
  go_enter Tryd.func17, Tryd.ntmps17
  go_wp2
  go_ret
  refine ⟨ret_int ?_, rfl⟩
  rw [← Hp.out, and127 F hF]
end Go.Proofs.YtmhgpgdekaeegaaDoor.Bi
