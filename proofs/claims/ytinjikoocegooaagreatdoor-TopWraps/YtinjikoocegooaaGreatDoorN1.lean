import Derived.Test.YtinjikoocegooaaGreatDoorProg
import Derived.Test.YtinjikoocegooaaGreatDoorYT5
import Derived.WalkKit
import Derived.WalkSpells
import Derived.WalkLawsBesides
import Derived.Deep.Draws
import Derived.Deep.QuietTactic
import Derived.BigQuiet
import Derived.Laws.Externs
import Derived.Laws.CopyOwn
import Derived.Shelf.Abstract
import Derived.Deep.RegionLaw
import Derived.BigRegion
import Derived.Deep.RegionHeld3
set_option linter.unusedVariables false
set_option linter.unusedSimpArgs false
namespace Go.Proofs.YtinjikoocegooaaGreatDoor
open Go.RowKit Go.Shelf
/-- The byte at a place of a text. -/
def bt (s : ByteArray) (j : Nat) : Nat := if h : j < s.size then (s[j]'h).toNat else 0
theorem bt_lt (s : ByteArray) (j : Nat) : bt s j < 256 := by
  unfold bt
  split
  · exact (UInt8.toNat_lt _)
  · omega
theorem run_bt (s : ByteArray) (j : Nat) (h : j < s.size) (w : World) : (Instr.index 9 (.string s) (.int .i64 (j : Int))).run Tryz.prog w = .ok (.int .u8 (bt s j : Nat)) w := by
  have h1 : (0 : Int) ≤ (j : Int) ∧ (j : Int) < (s.size : Int) := by omega
  rw [run_index_string w 9 s .i64 j Tryz.underlying9, dif_pos h1]
  have : bt s j = (s[((j : Int)).toNat]'(by omega)).toNat := by
    unfold bt; rw [dif_pos h]; rfl
  rw [this]
/-- May a byte stand in a name? -/
def nmc (c : Nat) : Bool := (decide (97 ≤ c) && decide (c ≤ 122)) || (decide (65 ≤ c) && decide (c ≤ 90)) || (decide (48 ≤ c) && decide (c ≤ 57)) || c == 95 || c == 45 || c == 46
def nameB (s : ByteArray) : Bool := decide (1 ≤ s.size ∧ s.size ≤ 64 ∧ ∀ j, j < s.size → nmc (bt s j) = true)
/-- The bytes' kinds, as the program's table has them. -/
def kdL : List Nat := [0, 0, 0, 0, 0, 0, 0, 0, 0, 1, 0, 0, 0, 0, 0, 0, 0, 0, 0, 0, 0, 0, 0, 0, 0, 0, 0, 0, 0, 0, 0, 0, 1, 7, 8, 9, 0, 0, 0, 0, 6, 6, 0, 5, 6, 4, 4, 0, 3, 3, 3, 3, 3, 3, 3, 3, 3, 3, 6, 6, 6, 6, 6, 0, 0, 2, 2, 2, 2, 2, 2, 2, 2, 2, 2, 2, 2, 2, 2, 2, 2, 2, 2, 2, 2, 2, 2, 2, 2, 2, 2, 6, 0, 6, 0, 2, 0, 2, 2, 2, 2, 2, 2, 2, 2, 2, 2, 2, 2, 2, 2, 2, 2, 2, 2, 2, 2, 2, 2, 2, 2, 2, 2, 6, 6, 6, 0, 0]
def kdN (c : Nat) : Nat := kdL.getD c 0
def inNm (k : Nat) : Bool := k == 2 || k == 3 || k == 4
theorem kd_all : ∀ c, c < 128 → inNm (kdN c) = nmc c := by decide +kernel
theorem kd_lt : ∀ c, c < 128 → kdN c < 256 := by decide +kernel
theorem nmc_high (c : Nat) (h : 128 ≤ c) : nmc c = false := by
  unfold nmc
  rw [decide_eq_false (show ¬ c ≤ 122 by omega), decide_eq_false (show ¬ c ≤ 90 by omega), decide_eq_false (show ¬ c ≤ 57 by omega)]
  have h1 : (c == 95) = false := by rw [beq_eq_false_iff_ne]; omega
  have h2 : (c == 45) = false := by rw [beq_eq_false_iff_ne]; omega
  have h3 : (c == 46) = false := by rw [beq_eq_false_iff_ne]; omega
  rw [h1, h2, h3]; simp
/-- The table stands as it was laid. -/
def Kt (w : World) : Prop := ∀ c, c < 128 → w.cell? ⟨1, c, none⟩ = some (.int .u8 (kdN c : Nat))
theorem Kt.keep {w w' : World} (h : Kt w) (k : Keep w w') : Kt w' := fun c hc => k.cell (h c hc)
theorem inName_any (k : Nat) (w : World) : Calls Tryz.prog 87 #[.int .u8 (k : Nat)] w fun e w' => e = .returned (.bool (inNm k)) ∧ w' = w := by
  have e2 : ((k : Int) == 2) = (k == 2) := by rw [Bool.eq_iff_iff]; simp only [beq_iff_eq]; omega
  have e3 : ((k : Int) == 3) = (k == 3) := by rw [Bool.eq_iff_iff]; simp only [beq_iff_eq]; omega
  have e4 : ((k : Int) == 4) = (k == 4) := by rw [Bool.eq_iff_iff]; simp only [beq_iff_eq]; omega
  have H : Hid (inNm k = ((k == 2) || (k == 3) || (k == 4))) := rfl
  generalize hb2 : (k == 2) = b2 at *
  generalize hb3 : (k == 3) = b3 at *
  generalize hb4 : (k == 4) = b4 at *
  clear hb2 hb3 hb4
  cases b2 <;> cases b3 <;> cases b4 <;> (go_enter Tryz.func87, Tryz.ntmps87; go_wp2_with fail; go_ret; exact ⟨by rw [H.out]; rfl, rfl⟩)
theorem kindOf_any (c : Nat) (w : World) (hT : Kt w) (hc : c < 256) : Calls Tryz.prog 103 #[.int .u8 (c : Nat)] w fun e w' => (∃ k : Nat, e = .returned (.int .u8 (k : Nat)) ∧ inNm k = nmc c) ∧ w' = w := by
  by_cases h : c < 128
  · have hi : decide ((128 : Int) ≤ (c : Int)) = false := decide_eq_false (by omega)
    have hx := hT c h
    have hin : Hid (inNm (kdN c) = nmc c) := kd_all c h
    generalize kdN c = k at hx hin
    go_enter Tryz.func103, Tryz.ntmps103
    go_wp2_with fail
    go_ret
    exact ⟨⟨k, rfl, hin.out⟩, rfl⟩
  · have hi : decide ((128 : Int) ≤ (c : Int)) = true := decide_eq_true (by omega)
    have hin : Hid (inNm 0 = nmc c) := by rw [nmc_high c (by omega)]; rfl
    go_enter Tryz.func103, Tryz.ntmps103
    go_wp2_with fail
    go_ret
    exact ⟨⟨0, rfl, hin.out⟩, rfl⟩
end Go.Proofs.YtinjikoocegooaaGreatDoor
