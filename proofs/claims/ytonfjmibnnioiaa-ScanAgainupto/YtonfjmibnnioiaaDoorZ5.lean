import Derived.Test.YtonfjmibnnioiaaDoorZ2
import Derived.Lib.SlBytesConst
set_option linter.unusedVariables false
set_option linter.unusedSimpArgs false
namespace Go.Proofs.YtonfjmibnnioiaaDoor
open Go.RowKit Go.Shelf
/-- The marks of one byte. -/
def mkL : List UInt8 := [44, 58, 59, 61, 60, 62, 40, 41, 91, 93, 123, 125, 124]
def mkB (c : UInt8) : Bool := mkL.contains c
theorem cellsM {w : World} {g : Nat} {T : Nat} (h : w.heap[g]? = some (.cells (Lib.byteCells mkL).toArray T (13, 14))) (j : Nat) (hj : j < 13) : w.cell? ⟨g, j, none⟩ = some (.int .u8 ((mkL.getD j 0).toNat : Nat)) := by
  rw [cell_of_row _ _ j _ T (13, 14) h]
  have : ∀ j, j < 13 → (Lib.byteCells mkL).toArray[j]? = some (.int .u8 ((mkL.getD j 0).toNat : Nat)) := by
    intro j hj
    have hl : j < mkL.length := hj
    simp [Lib.byteCells, List.getD, hl]
  exact this j hj
set_option maxRecDepth 100000 in
set_option maxHeartbeats 2000000 in
theorem rmark_any (c : UInt8) (w : World) : Calls Tryd.prog 38 #[.int .u8 (c.toNat : Nat)] w fun e w' => e = .returned (.bool (mkB c)) ∧ Keep w w' := by
  obtain ⟨w1, hw1, k1, t1, s1⟩ : ∃ w1, w.alloc (Obj.cells (Lib.byteCells mkL).toArray 5 (13, 14)) = w1 ∧ Keep w w1 ∧ w1.heap[w.heap.size]? = some (Obj.cells (Lib.byteCells mkL).toArray 5 (13, 14)) ∧ w1.heap.size = w.heap.size + 1 := ⟨_, rfl, (Keep.refl w).alloc _, heap_alloc_new w _, by simp⟩
  have hcv : (convert 58 58 (.slice (some ⟨w.heap.size, 0, none⟩) 13 13)).run Tryd.prog (w.alloc (Obj.cells #[.int .u8 44, .int .u8 58, .int .u8 59, .int .u8 61, .int .u8 60, .int .u8 62, .int .u8 40, .int .u8 41, .int .u8 91, .int .u8 93, .int .u8 123, .int .u8 125, .int .u8 124] 5)) = .ok (.slice (some ⟨w.heap.size, 0, none⟩) 13 13) w1 := by
    rw [← hw1]
    exact Lib.run_convert_bytes_const w 58 5 (Lib.byteCells mkL).toArray 13 13 Tryd.underlying58 Tryd.underlying5
  have hc := fun j hj => cellsM t1 j hj
  replace hc : Hid _ := hc
  replace k1 : Hid _ := k1
  have hq : ∀ d : UInt8, ((c.toNat : Int) == (d.toNat : Int)) = decide (c = d) := fun d => ub_eq c d
  replace hq : Hid _ := hq
  clear hw1 t1
  have hz : w.heap.size < w1.heap.size := by omega
  go_enter Tryd.func38, Tryd.ntmps38
  go_wp2_with (rw [hcv])
  go_loop [8] (fun iv => ∃ k : Nat, iv = .int .i64 k ∧ k ≤ 13 ∧ Hid (mkB c = (mkL.drop k).contains c)) (fun iv => 13 - (intOf iv).toNat)
  case atStart => exact ⟨0, rfl, by omega, rfl⟩
  case round =>
    obtain ⟨k, rfl, hk, H⟩ := hrel
    by_cases hlt : k < 13
    · have hltc : decide ((k : Int) < 13) = true := decide_eq_true (by omega)
      have hx := hc.out k hlt
      have hd : mkL.drop k = mkL.getD k 0 :: mkL.drop (k + 1) := drop_cons mkL k hlt
      have he := hq.out (mkL.getD k 0)
      have hC := H.out
      rw [hd] at hC
      generalize mkL.getD k 0 = d at *
      have HK : Hid (k < 13) := hlt
      by_cases h : c = d
      · rw [decide_eq_true h] at he
        have HC : Hid (mkB c = true) := by unfold Hid; rw [hC]; simp [h]
        clear hd hC H h
        generalize c.toNat = n at *
        generalize d.toNat = n2 at *
        go_wp2_with fail
        go_ret
        exact ⟨by rw [HC.out]; rfl, k1.out⟩
      · rw [decide_eq_false h] at he
        have HC : Hid (mkB c = (mkL.drop (k + 1)).contains c) := by
          unfold Hid; rw [hC, List.contains_cons]
          have : (c == d) = false := by simpa using h
          rw [this]; rfl
        clear hd hC H h
        generalize c.toNat = n at *
        generalize d.toNat = n2 at *
        go_wp2_with fail
        go_round
        case rel => exact ⟨k + 1, by go_num, by have := HK.out; omega, HC⟩
        case measure => have := HK.out; simp [intOf]; omega
    · obtain rfl : k = 13 := by omega
      have HC : Hid (mkB c = false) := by unfold Hid; rw [H.out]; rfl
      go_wp2_with fail
      go_ret
      exact ⟨by rw [HC.out]; rfl, k1.out⟩
end Go.Proofs.YtonfjmibnnioiaaDoor
