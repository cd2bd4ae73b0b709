import Derived.Test.YtieheijcfiijmaaDoorProg
import Derived.Test.YtieheijcfiijmaaDoorZX3
import Derived.Deep.RegionLaw
import Derived.Shelf.Abstract
import Derived.Below
import Derived.WalkKit
import Derived.WalkSpells
import Derived.WalkLawsBesides
import Derived.Deep.Draws
import Derived.Deep.QuietTactic
import Derived.BigQuiet
import Derived.Laws.Externs
import Derived.Laws.CopyOwn
import Derived.BigRegion
import Derived.Laws.BitsAll
set_option linter.unusedVariables false
set_option linter.unusedSimpArgs false
namespace Go.Proofs.YtieheijcfiijmaaDoor
open Go.RowKit Go.Shelf
/-- Is the number one of the first k of these? -/
def amT (l : List Int) (k : Nat) (x : Nat) : Bool := (l.take k).any (fun c => eqI c x)
theorem amT_zero (l : List Int) (x : Nat) : amT l 0 x = false := by simp [amT]
theorem amT_succ (l : List Int) (k : Nat) (x : Nat) (hk : k < l.length) : amT l (k + 1) x = (amT l k x || eqI (l.getD k 0) x) := by
  unfold amT
  rw [List.take_succ_eq_append_getElem hk, List.any_append]
  simp [List.getD, hk]
/-- The lanes that are no NaN and none of the first k categories. -/
def ouK (X : Nat → Nat) (l : List Int) (k : Nat) : Nat := bt (fun i => !nanB (X i) && !amT l k (X i)) 8
theorem ouK_zero (X : Nat → Nat) (l : List Int) : ouK X l 0 = 255 - bt (fun i => nanB (X i)) 8 := by
  rw [bt_not]; unfold ouK; refine bt_congr fun i _ => ?_
  rw [amT_zero]; simp
theorem ouK_lt (X : Nat → Nat) (l : List Int) (k : Nat) : ouK X l k < 256 := bt_lt8 _ (Nat.le_refl _)
theorem ouK_succ (X : Nat → Nat) (l : List Int) (k : Nat) (hk : k < l.length) : ouK X l k &&& (255 - bt (fun i => eqI (l.getD k 0) (X i)) 8) = ouK X l (k + 1) := by
  unfold ouK; rw [bt_andn]; refine bt_congr fun i _ => ?_
  rw [amT_succ l k _ hk]
  cases nanB (X i) <;> cases amT l k (X i) <;> cases eqI (l.getD k 0) (X i) <;> rfl
theorem bit255 (i : Nat) (hi : i < 8) : (255 : Nat).testBit i = true := by
  have : i = 0 ∨ i = 1 ∨ i = 2 ∨ i = 3 ∨ i = 4 ∨ i = 5 ∨ i = 6 ∨ i = 7 := by omega
  rcases this with rfl | rfl | rfl | rfl | rfl | rfl | rfl | rfl <;> decide
theorem not8 (B : Nat) (hb : B < 256) : bits .xor .u8 IntKind.u8.max (B : Int) = ((255 - B : Nat) : Int) := by
  have h : bits .xor .u8 IntKind.u8.max (B : Int) = ((255 ^^^ B : Nat) : Int) := u8_xor_nat 255 B (by omega) hb
  rw [h]
  congr 1
  refine byte_ext (Nat.xor_lt_two_pow (n := 8) (by omega) hb) (by omega) ?_
  intro i hi
  rw [Nat.testBit_xor, bit255 i hi]
  have := andn_test 255 B i hb hi
  rw [Nat.testBit_and, bit255 i hi] at this
  simp only [Bool.true_and] at this
  rw [this]; simp
set_option maxRecDepth 100000 in
set_option maxHeartbeats 1000000 in
theorem Outside_any (X : Nat → Nat) (a : Option Addr) (c : Nat) (l : List Int) (w : World) (hl : l.length ≤ 17592186044416) (hr : RdI w a l) :
    Calls Tryd.prog 17 #[LV X, .slice a l.length c] w fun e w' => e = .returned (.int .u8 (ouK X l l.length : Nat)) ∧ Keep w w' := by
  have hC := Lost_any X (w.alloc (LC X))
  have k0 : Keep w (w.alloc (LC X)) := (Keep.refl w).alloc _
  have HZ : Hid (ouK X l 0 = 255 - bt (fun i => nanB (X i)) 8) := ouK_zero X l
  have hb0 : bt (fun i => nanB (X i)) 8 < 256 := bt_lt8 _ (Nat.le_refl _)
  have hcell : ∀ i, i < 8 → (w.alloc (LC X)).cell? ⟨w.heap.size, i, none⟩ = some (.float .f64 (X i)) := fun i hi => laneCell X w i hi
  generalize bt (fun i => nanB (X i)) 8 = B at *
  go_enter Tryd.func17, Tryd.ntmps17
  go_wp2_with (go_at_call 18; refine hC.mono ?_; rintro e w1 ⟨rfl, k1⟩)
  go_loopw [5, 13] (fun o i wr => ∃ k : Nat, k ≤ l.length ∧ i = .int .i64 k ∧ o = .int .u8 (ouK X l k : Nat) ∧ Keep (w.alloc (LC X)) wr) (fun _ i _ => l.length - (intOf i).toNat)
  case atStart => exact ⟨0, by omega, rfl, by rw [not8 _ hb0, HZ.out], k1⟩
  case round =>
    obtain ⟨k, hk, rfl, rfl, kw⟩ := hrel
    by_cases hkl : k < l.length
    · have hkc : (k : Int) < (l.length : Int) := by omega
      obtain ⟨b1, o1, rfl, c1⟩ := (hr.keep (k0.trans kw)) k hkl
      have c00 := kw.cell (hcell 0 (by omega))
      have c01 := kw.cell (hcell 1 (by omega))
      have c02 := kw.cell (hcell 2 (by omega))
      have c03 := kw.cell (hcell 3 (by omega))
      have c04 := kw.cell (hcell 4 (by omega))
      have c05 := kw.cell (hcell 5 (by omega))
      have c06 := kw.cell (hcell 6 (by omega))
      have c07 := kw.cell (hcell 7 (by omega))
      have hz : w.heap.size < wr.heap.size := by have := kw.le; simp only [World.size_alloc] at this; omega
      have hlt := ouK_lt X l k
      have HS : Hid (ouK X l k &&& (255 - bt (fun i => eqI (l.getD k 0) (X i)) 8) = ouK X l (k + 1)) := ouK_succ X l k hkl
      have hbl : bt (fun i => eqI (l.getD k 0) (X i)) 8 < 256 := bt_lt8 _ (Nat.le_refl _)
      have hG := gather_out X wr.heap.size (l.getD k 0) (wr.alloc (Obj.cells #[.int .i64 (l.getD k 0)] 3)) (by rw [cell_of_row _ _ 0 _ 3 (0, 0) (heap_alloc_new _ _)]; rfl)
      generalize bt (fun i => eqI (l.getD k 0) (X i)) 8 = G at *
      generalize ouK X l k = B1 at *
      generalize l.getD k 0 = y at *
      go_wp2_with (go_at_call 28; refine hG.mono ?_; rintro e w2 ⟨rfl, k2⟩)
      go_roundw
      case rel => exact ⟨k + 1, by omega, by go_num, by rw [u8_andNot_nat _ _ hlt hbl, HS.out], (kw.alloc _).trans k2⟩
      case measure => simp [intOf]; omega
    · have hkc : ¬ (k : Int) < (l.length : Int) := by omega
      obtain rfl : k = l.length := by omega
      go_wp2_with fail
      go_ret
      exact ⟨rfl, k0.trans kw⟩
end Go.Proofs.YtieheijcfiijmaaDoor
