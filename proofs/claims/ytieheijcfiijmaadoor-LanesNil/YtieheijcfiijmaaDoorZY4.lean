import Derived.Test.YtieheijcfiijmaaDoorProg
import Derived.Test.YtieheijcfiijmaaDoorZY2
import Derived.Deep.RegionLaw
import Derived.Shelf.Abstract
import Derived.Below
import Derived.WalkKit
import Derived.WalkSpells
import Derived.WalkLawsBesides
import Derived.Deep.Draws
import Derived.Deep.QuietTactic
import Derived.BigQuiet
import Derived.Laws.Externs
import Derived.Laws.CopyOwn
import Derived.BigRegion
import Derived.Laws.BitsAll
import Derived.Deep.RegionHeld3
import Derived.Deep.Cut
set_option linter.unusedVariables false
set_option linter.unusedSimpArgs false
namespace Go.Proofs.YtieheijcfiijmaaDoor
open Go.RowKit Go.Shelf
/-- Is there a row that has not d elements of z cells? -/
def badB (z : Nat) (V : List (List Nat)) (d : Nat) : Bool := V.any (fun l => l.length != d * z)
theorem badB_yes {z : Nat} {V : List (List Nat)} {d j : Nat} (hj : j < V.length) (h : (V.getD j []).length ≠ d * z) : badB z V d = true := by
  refine List.any_eq_true.2 ⟨V[j], List.getElem_mem hj, ?_⟩
  have e : V.getD j [] = V[j] := by simp [List.getD, hj]
  rw [e] at h
  simpa using h
theorem badB_no {z : Nat} {V : List (List Nat)} {d : Nat} (h : ∀ j, j < V.length → (V.getD j []).length = d * z) : badB z V d = false := by
  unfold badB
  rw [List.any_eq_false]
  intro l hl
  obtain ⟨i, hi, rfl⟩ := List.getElem_of_mem hl
  have e : V.getD i [] = V[i] := by simp [List.getD, hi]
  have := h i hi
  rw [e] at this
  simp [this]
theorem badB_all {z : Nat} {V : List (List Nat)} {d : Nat} (h : badB z V d = false) (j : Nat) (hj : j < V.length) : (V.getD j []).length = d * z := by
  unfold badB at h
  rw [List.any_eq_false] at h
  have e : V.getD j [] = V[j] := by simp [List.getD, hj]
  have := h V[j] (List.getElem_mem hj)
  rw [e]
  simpa using this
theorem shut33_any (a : Option Addr) (n c b d : Nat) (w : World) (hn : n ≤ 17592186044416) (h : w.cell? ⟨b, 0, none⟩ = some (.int .i64 (d : Nat))) :
    Calls Tryd.prog 33 #[.slice a n c, .pointer (some ⟨b, 0, none⟩)] w fun e w' => e = .returned (.bool (decide (n ≠ d))) ∧ w' = w := by
  by_cases hd : n = d
  · subst hd
    go_enter Tryd.func33, Tryd.ntmps33
    go_wp2_with fail
    go_ret
    exact ⟨ret_bool (by simp), rfl⟩
  · have h1 : ((n : Int) != (d : Int)) = true := by simp; omega
    have h2 : Hid (decide (n ≠ d) = true) := decide_eq_true hd
    go_enter Tryd.func33, Tryd.ntmps33
    go_wp2_with fail
    go_ret
    exact ⟨ret_bool (by rw [h2.out]), rfl⟩
set_option maxRecDepth 100000 in
set_option maxHeartbeats 1000000 in
theorem Index32_any (a : Option Addr) (c : Nat) (V : List (List Nat)) (b d : Nat) (w : World) (hl : V.length ≤ 17592186044416) (hr : RdS 1 w a V) (h : w.cell? ⟨b, 0, none⟩ = some (.int .i64 (d : Nat))) :
    Calls Tryd.prog 32 #[.slice a V.length c, .func (.func 33) #[] #[.pointer (some ⟨b, 0, none⟩)]] w fun e w' => ∃ i : Int, e = .returned (.int .i64 i) ∧ decide (0 ≤ i) = badB 1 V d ∧ w' = w := by
  go_enter Tryd.func32, Tryd.ntmps32
  go_wp2_with fail
  go_loop [8] (fun i => ∃ k : Nat, k ≤ V.length ∧ i = .int .i64 k ∧ Hid (∀ j, j < k → (V.getD j []).length = d * 1)) (fun i => V.length - (intOf i).toNat)
  case atStart => exact ⟨0, by omega, rfl, by intro j hj; omega⟩
  case round =>
    obtain ⟨k, hk, rfl, hinv⟩ := hrel
    by_cases hkl : k < V.length
    · have hkc : (k : Int) < (V.length : Int) := by omega
      obtain ⟨b', o, va, n, vc, rfl, c0, hn, -, -, hnl⟩ := hr k hkl
      have hC := shut33_any va n vc b d w (by omega) h
      by_cases hd : n = d
      · have hn2 : Hid (∀ j, j < k + 1 → (V.getD j []).length = d * 1) := by
          intro j hj
          rcases Nat.lt_or_ge j k with h1 | h1
          · exact hinv.out j h1
          · obtain rfl : j = k := by omega
            omega
        have e : decide (n ≠ d) = false := by simp [hd]
        rw [e] at hC
        clear hd hn hnl e
        go_wp2_with (go_at_call 33; refine hC.mono ?_; rintro e w1 ⟨rfl, rfl⟩)
        go_round
        case rel => exact ⟨k + 1, by omega, by go_num, hn2⟩
        case measure => simp [intOf]; omega
      · have HR : Hid (badB 1 V d = true) := badB_yes hkl (by omega)
        have e : decide (n ≠ d) = true := by simp [hd]
        rw [e] at hC
        clear hd hn hnl e
        go_wp2_with (go_at_call 33; refine hC.mono ?_; rintro e w1 ⟨rfl, rfl⟩)
        go_ret
        exact ⟨k, rfl, by rw [HR.out]; simp, rfl⟩
    · have hkc : ¬ (k : Int) < (V.length : Int) := by omega
      have HR : Hid (badB 1 V d = false) := badB_no (fun i hi => hinv.out i (by omega))
      go_wp2_with fail
      go_ret
      exact ⟨-1, rfl, by rw [HR.out]; rfl, rfl⟩
theorem firstWrong_any (a : Option Addr) (c : Nat) (V : List (List Nat)) (d : Nat) (w : World) (hl : V.length ≤ 17592186044416) (hr : RdS 1 w a V) :
    Calls Tryd.prog 19 #[.slice a V.length c, .int .i64 (d : Nat)] w fun e w' => ∃ i : Int, e = .returned (.int .i64 i) ∧ decide (0 ≤ i) = badB 1 V d ∧ Keep w w' := by
  have k0 : Keep w (w.alloc (Obj.cells #[Value.int .i64 (d : Nat)] 3)) := (Keep.refl w).alloc _
  have hI := Index32_any a c V w.heap.size d (w.alloc (Obj.cells #[Value.int .i64 (d : Nat)] 3)) hl (hr.keep k0) (by rw [cell_of_row _ _ 0 _ 3 (0, 0) (heap_alloc_new w _)]; rfl)
  go_enter Tryd.func19, Tryd.ntmps19
  go_wp2_with (go_at_call 32; refine hI.mono ?_; rintro e w1 ⟨i, rfl, hi, rfl⟩)
  go_ret
  exact ⟨i, rfl, hi, k0⟩
/-- How many groups n vectors make. -/
def many (n : Nat) : Nat := (n + 7) / 8
end Go.Proofs.YtieheijcfiijmaaDoor
