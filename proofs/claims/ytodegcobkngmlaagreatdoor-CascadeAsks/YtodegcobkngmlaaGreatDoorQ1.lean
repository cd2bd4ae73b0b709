import Derived.Test.YtodegcobkngmlaaGreatDoorProg
import Derived.Test.YtodegcobkngmlaaGreatDoorH1
import Derived.Test.YtodegcobkngmlaaGreatDoorF1
import Derived.WalkKit
import Derived.WalkSpells
import Derived.WalkLawsBesides
import Derived.Deep.Draws
import Derived.Deep.QuietTactic
import Derived.BigQuiet
import Derived.Laws.Externs
import Derived.Laws.CopyOwn
import Derived.Shelf.Abstract
import Derived.Deep.RegionLaw
import Derived.BigRegion
import Derived.Deep.RegionHeld3
set_option linter.unusedVariables false
set_option linter.unusedSimpArgs false
namespace Go.Proofs.YtodegcobkngmlaaGreatDoor
open Go.RowKit Go.Shelf
def ltB (c : Nat) : Bool := (decide (97 ≤ c) && decide (c ≤ 122)) || (decide (65 ≤ c) && decide (c ≤ 90))
def dgB (c : Nat) : Bool := decide (48 ≤ c) && decide (c ≤ 57)
theorem di (a b : Nat) : decide ((a : Int) ≤ (b : Int)) = decide (a ≤ b) := by rw [decide_eq_decide]; omega
theorem rletter_any (c : Nat) (w : World) : Calls Tryz.prog 83 #[.int .u8 (c : Nat)] w fun e w' => e = .returned (.bool (ltB c)) ∧ w' = w := by
  have d1 : decide ((97 : Int) ≤ (c : Int)) = decide (97 ≤ c) := di 97 c
  have d2 : decide ((c : Int) ≤ (122 : Int)) = decide (c ≤ 122) := di c 122
  have d3 : decide ((65 : Int) ≤ (c : Int)) = decide (65 ≤ c) := di 65 c
  have d4 : decide ((c : Int) ≤ (90 : Int)) = decide (c ≤ 90) := di c 90
  have H : Hid (ltB c = ((decide (97 ≤ c) && decide (c ≤ 122)) || (decide (65 ≤ c) && decide (c ≤ 90)))) := rfl
  generalize ltB c = r at H ⊢
  generalize decide (97 ≤ c) = b1 at d1 H
  generalize decide (c ≤ 122) = b2 at d2 H
  generalize decide (65 ≤ c) = b3 at d3 H
  generalize decide (c ≤ 90) = b4 at d4 H
  cases b1 <;> cases b2 <;> cases b3 <;> (go_enter Tryz.func83, Tryz.ntmps83; go_wp2_with fail; go_ret; exact ⟨by rw [H.out]; rfl, rfl⟩)
theorem rdigit_any (c : Nat) (w : World) : Calls Tryz.prog 84 #[.int .u8 (c : Nat)] w fun e w' => e = .returned (.bool (dgB c)) ∧ w' = w := by
  have d1 : decide ((48 : Int) ≤ (c : Int)) = decide (48 ≤ c) := di 48 c
  have d2 : decide ((c : Int) ≤ (57 : Int)) = decide (c ≤ 57) := di c 57
  have H : Hid (dgB c = (decide (48 ≤ c) && decide (c ≤ 57))) := rfl
  generalize dgB c = r at H ⊢
  generalize decide (48 ≤ c) = b1 at d1 H
  generalize decide (c ≤ 57) = b2 at d2 H
  cases b1 <;> (go_enter Tryz.func84, Tryz.ntmps84; go_wp2_with fail; go_ret; exact ⟨by rw [H.out]; rfl, rfl⟩)
def alB2 (s : ByteArray) (k : Nat) : Prop := ∀ j, j < k → nmc (bt s j) = true
theorem ni (a b : Nat) : ((a : Int) != (b : Int)) = !(a == b) := by rw [bne]; congr 1; rw [Bool.eq_iff_iff]; simp only [beq_iff_eq]; omega
set_option maxRecDepth 100000 in
set_option maxHeartbeats 2000000 in
theorem rName_any (s : ByteArray) (w : World) (hs : s.size ≤ 281474976710656) : Calls Tryz.prog 62 #[.string s] w fun e w' => e = .returned (.bool (nameB s)) ∧ w' = w := by
  go_enter Tryz.func62, Tryz.ntmps62
  go_wp2_with fail
  go_loop [3] (fun n => ∃ k : Nat, n = .int .i64 (k : Int) ∧ k ≤ s.size ∧ Hid (alB2 s k)) (fun n => s.size - (intOf n).toNat)
  case atStart => exact ⟨0, rfl, by omega, fun j hj => by omega⟩
  case round =>
    obtain ⟨k, rfl, hk, H⟩ := hrel
    by_cases hlt : k < s.size
    · have hltc : (k : Int) < (s.size : Int) := by omega
      have hx := run_bt s k hlt
      have HK : Hid (k < s.size) := hlt
      have Hno : Hid (nmc (bt s k) = false → nameB s = false) := fun h => by
        unfold nameB; rw [decide_eq_false]; intro hh; have := hh.2.2 k hlt; rw [h] at this; cases this
      have Hyes : Hid (nmc (bt s k) = true → alB2 s (k + 1)) := fun h j hj => by
        by_cases e : j = k
        · rw [e]; exact h
        · exact H.out j (by omega)
      clear hlt
      generalize bt s k = c at hx Hno Hyes
      have hL := rletter_any c w
      have hD := rdigit_any c w
      have n1 : ((c : Int) != 95) = !(c == 95) := ni c 95
      have n2 : ((c : Int) != 45) = !(c == 45) := ni c 45
      have n3 : ((c : Int) != 46) = !(c == 46) := ni c 46
      have HM : Hid (nmc c = (ltB c || dgB c || (c == 95) || (c == 45) || (c == 46))) := rfl
      generalize nmc c = m at Hno Hyes HM
      generalize ltB c = b1 at hL HM
      generalize dgB c = b2 at hD HM
      generalize (c == 95) = b3 at n1 HM
      generalize (c == 45) = b4 at n2 HM
      generalize (c == 46) = b5 at n3 HM
      cases b1 with
      | true =>
        have hy := Hyes.out (by rw [HM.out]; rfl)
        replace hy : Hid _ := hy
        go_wp2_with (first | (go_at_call 83; refine hL.mono ?_; rintro e w0 ⟨rfl, rfl⟩) | (go_at_call 84; refine hD.mono ?_; rintro e w0 ⟨rfl, rfl⟩))
        go_round
        case rel => exact ⟨k + 1, by go_num, by have := HK.out; omega, hy⟩
        case measure => have := HK.out; simp [intOf]; omega
      | false =>
        cases b2 with
        | true =>
          have hy := Hyes.out (by rw [HM.out]; rfl)
          replace hy : Hid _ := hy
          go_wp2_with (first | (go_at_call 83; refine hL.mono ?_; rintro e w0 ⟨rfl, rfl⟩) | (go_at_call 84; refine hD.mono ?_; rintro e w0 ⟨rfl, rfl⟩))
          go_round
          case rel => exact ⟨k + 1, by go_num, by have := HK.out; omega, hy⟩
          case measure => have := HK.out; simp [intOf]; omega
        | false =>
          cases b3 with
          | true =>
            have hy := Hyes.out (by rw [HM.out]; rfl)
            replace hy : Hid _ := hy
            go_wp2_with (first | (go_at_call 83; refine hL.mono ?_; rintro e w0 ⟨rfl, rfl⟩) | (go_at_call 84; refine hD.mono ?_; rintro e w0 ⟨rfl, rfl⟩))
            go_round
            case rel => exact ⟨k + 1, by go_num, by have := HK.out; omega, hy⟩
            case measure => have := HK.out; simp [intOf]; omega
          | false =>
            cases b4 with
            | true =>
              have hy := Hyes.out (by rw [HM.out]; rfl)
              replace hy : Hid _ := hy
              go_wp2_with (first | (go_at_call 83; refine hL.mono ?_; rintro e w0 ⟨rfl, rfl⟩) | (go_at_call 84; refine hD.mono ?_; rintro e w0 ⟨rfl, rfl⟩))
              go_round
              case rel => exact ⟨k + 1, by go_num, by have := HK.out; omega, hy⟩
              case measure => have := HK.out; simp [intOf]; omega
            | false =>
              cases b5 with
              | true =>
                have hy := Hyes.out (by rw [HM.out]; rfl)
                replace hy : Hid _ := hy
                go_wp2_with (first | (go_at_call 83; refine hL.mono ?_; rintro e w0 ⟨rfl, rfl⟩) | (go_at_call 84; refine hD.mono ?_; rintro e w0 ⟨rfl, rfl⟩))
                go_round
                case rel => exact ⟨k + 1, by go_num, by have := HK.out; omega, hy⟩
                case measure => have := HK.out; simp [intOf]; omega
              | false =>
                have hn := Hno.out (by rw [HM.out]; rfl)
                replace hn : Hid _ := hn
                go_wp2_with (first | (go_at_call 83; refine hL.mono ?_; rintro e w0 ⟨rfl, rfl⟩) | (go_at_call 84; refine hD.mono ?_; rintro e w0 ⟨rfl, rfl⟩))
                go_ret
                exact ⟨by rw [hn.out]; rfl, rfl⟩
    · have hltc : ¬ (k : Int) < (s.size : Int) := by omega
      obtain rfl : k = s.size := by omega
      have HN : Hid (nameB s = (decide (1 ≤ s.size) && decide (s.size ≤ 64))) := by
        unfold Hid nameB; rw [← Bool.decide_and, decide_eq_decide]
        exact ⟨fun h => ⟨h.1, h.2.1⟩, fun h => ⟨h.1, h.2, H.out⟩⟩
      have d1 : decide ((1 : Int) ≤ (s.size : Int)) = decide (1 ≤ s.size) := di 1 s.size
      have d2 : decide ((s.size : Int) ≤ (64 : Int)) = decide (s.size ≤ 64) := di s.size 64

      generalize decide (1 ≤ s.size) = b1 at d1 HN
      generalize decide (s.size ≤ 64) = b2 at d2 HN
      cases b1 <;> (go_wp2_with fail; go_ret; exact ⟨by rw [HN.out]; rfl, rfl⟩)
end Go.Proofs.YtodegcobkngmlaaGreatDoor
