import Derived.Test.YtonfjmibnnioiaaDoorP3
import Derived.Test.YtonfjmibnnioiaaDoorX4
set_option linter.unusedVariables false
set_option linter.unusedSimpArgs false
namespace Go.Proofs.YtonfjmibnnioiaaDoor
open Go.RowKit Go.Shelf
set_option maxRecDepth 100000 in
set_option maxHeartbeats 4000000 in
theorem wide_N1 (l : List UInt8) (i c : Nat) (w : World) (hi : i < l.length) (hs : l.length ≤ 1099511627776) (hx : ∀ w, (Instr.index 9 (.string ⟨l.toArray⟩) (.int .i64 (i : Int))).run Tryd.prog w = .ok (.int .u8 (c : Nat)) w) (h128 : 128 ≤ c) (hlt : c < 256) (hcc : c < 194) : Calls Tryd.prog 50 #[.string ⟨l.toArray⟩, .int .i64 (i : Nat)] w fun e w' => e = .returned (.int .i64 (wdG l i 0 128 191 : Nat)) ∧ w' = w := by
  have hsz := sz_mk l
  have d1 : decide ((c : Int) < 128) = false := decide_eq_false (by omega)
  have e1 : decide ((194 : Int) ≤ (c : Int)) = false := decide_eq_false (by omega)
  have e2 : decide ((c : Int) ≤ 223) = true := decide_eq_true (by omega)
  have e3 : decide ((224 : Int) ≤ (c : Int)) = false := decide_eq_false (by omega)
  have e4 : decide ((c : Int) ≤ 239) = true := decide_eq_true (by omega)
  have e5 : decide ((240 : Int) ≤ (c : Int)) = false := decide_eq_false (by omega)
  have e6 : decide ((c : Int) ≤ 244) = true := decide_eq_true (by omega)
  have g1 : ((c : Int) == 224) = false := by rw [beq_eq_false_iff_ne]; omega
  have g2 : ((c : Int) == 237) = false := by rw [beq_eq_false_iff_ne]; omega
  have g3 : ((c : Int) == 240) = false := by rw [beq_eq_false_iff_ne]; omega
  have g4 : ((c : Int) == 244) = false := by rw [beq_eq_false_iff_ne]; omega
  obtain ⟨R, hR⟩ : ∃ R, wdG l i 0 128 191 = R := ⟨_, rfl⟩
  rw [hR]
  unfold wdG at hR
  clear hcc h128 hlt
  by_cases hlen : l.length < i + 0
  · exact absurd hlen (by omega)
  · rw [if_neg hlen] at hR
    have hl1 : decide ((l.length : Int) < (i : Int) + 0) = false := decide_eq_false (by omega)
    have hln : ¬ l.length < i + 0 := hlen
    replace hR : Hid _ := hR
    go_enter Tryd.func50, Tryd.ntmps50
    go_wp2_with fail
    go_loop [7, 8, 9] (fun lv hv kv => ∃ (k lw hg : Nat), kv = .int .i64 k ∧ lv = .int .u8 (lw : Nat) ∧ hv = .int .u8 (hg : Nat) ∧ 1 ≤ k ∧ k ≤ 5 ∧ Hid (lw = (if k = 1 then 128 else 128) ∧ hg = (if k = 1 then 191 else 191)) ∧ Hid (wA l i 0 128 191 1 = wA l i 0 128 191 k)) (fun _ _ kv => 5 - (intOf kv).toNat)
    case atStart => exact ⟨1, 128, 191, rfl, rfl, rfl, by omega, by omega, ⟨rfl, rfl⟩, rfl⟩
    case round =>
      obtain ⟨k, lw, hg, rfl, rfl, rfl, hk1, hk5, HL, HA⟩ := hrel
      by_cases hkn : k < 0
      · have hkc : decide ((k : Int) < 0) = true := decide_eq_true (by omega)
        have hxk : ∀ w, (Instr.index 9 (.string ⟨l.toArray⟩) (.int .i64 ((i : Int) + (k : Int)))).run Tryd.prog w = .ok (.int .u8 ((l.getD (i + k) 0).toNat : Nat)) w := fun w => run_ix l (i + k) (by omega) w
        have hst := wA_step l i 0 128 191 k hkn
        have hp : wP l i 128 191 k = (decide (lw ≤ (l.getD (i + k) 0).toNat) && decide ((l.getD (i + k) 0).toNat ≤ hg)) := by
          unfold wP; rw [HL.out.1, HL.out.2]
        rw [hp] at hst
        generalize (l.getD (i + k) 0).toNat = x at *
        by_cases h1 : lw ≤ x
        · have j1 : decide ((x : Int) < (lw : Int)) = false := decide_eq_false (by omega)
          by_cases h2 : x ≤ hg
          · have j2 : decide ((hg : Int) < (x : Int)) = false := decide_eq_false (by omega)
            have HA2 : Hid (wA l i 0 128 191 1 = wA l i 0 128 191 (k + 1)) := by
              unfold Hid; rw [HA.out, hst, decide_eq_true h1, decide_eq_true h2]; rfl
            have jn1 : ¬ x < lw := by omega
            have jn2 : ¬ hg < x := by omega
            have HK : Hid (k < 0 ∧ 1 ≤ k) := ⟨hkn, hk1⟩
            clear hst hp HA HL
            go_wp2_with fail
            go_round
            case rel => exact ⟨k + 1, 128, 191, by go_num, rfl, rfl, by omega, by have := HK.out; omega, by unfold Hid; have := HK.out; rw [if_neg (by omega), if_neg (by omega)]; exact ⟨rfl, rfl⟩, HA2⟩
            case measure => have := HK.out; simp [intOf]; omega
          · have j2 : decide ((hg : Int) < (x : Int)) = true := decide_eq_true (by omega)
            have HX : Hid (0 = R) := by
              unfold Hid; rw [← hR.out, HA.out, hst, decide_eq_false h2, Bool.and_false]; rfl
            have jn1 : ¬ x < lw := by omega
            have jn2 : hg < x := by omega
            clear hst hp HA HL
            go_wp2_with fail
            go_ret
            exact ⟨by rw [← HX.out]; rfl, rfl⟩
        · have j1 : decide ((x : Int) < (lw : Int)) = true := decide_eq_true (by omega)
          have jn1 : x < lw := by omega
          have HX : Hid (0 = R) := by
            unfold Hid; rw [← hR.out, HA.out, hst, decide_eq_false h1]; rfl
          clear hst hp HA HL
          go_wp2_with fail
          go_ret
          exact ⟨by rw [← HX.out]; rfl, rfl⟩
      · have hkc : decide ((k : Int) < 0) = false := decide_eq_false (by omega)
        have HX : Hid (0 = R) := by
          unfold Hid; rw [← hR.out, HA.out, wA_end l i 0 128 191 k (by omega)]; rfl
        go_wp2_with fail
        go_ret
        exact ⟨by rw [← HX.out]; rfl, rfl⟩
set_option maxRecDepth 100000 in
set_option maxHeartbeats 4000000 in
theorem wide_N2 (l : List UInt8) (i c : Nat) (w : World) (hi : i < l.length) (hs : l.length ≤ 1099511627776) (hx : ∀ w, (Instr.index 9 (.string ⟨l.toArray⟩) (.int .i64 (i : Int))).run Tryd.prog w = .ok (.int .u8 (c : Nat)) w) (h128 : 128 ≤ c) (hlt : c < 256) (hcc : 244 < c) : Calls Tryd.prog 50 #[.string ⟨l.toArray⟩, .int .i64 (i : Nat)] w fun e w' => e = .returned (.int .i64 (wdG l i 0 128 191 : Nat)) ∧ w' = w := by
  have hsz := sz_mk l
  have d1 : decide ((c : Int) < 128) = false := decide_eq_false (by omega)
  have e1 : decide ((194 : Int) ≤ (c : Int)) = true := decide_eq_true (by omega)
  have e2 : decide ((c : Int) ≤ 223) = false := decide_eq_false (by omega)
  have e3 : decide ((224 : Int) ≤ (c : Int)) = true := decide_eq_true (by omega)
  have e4 : decide ((c : Int) ≤ 239) = false := decide_eq_false (by omega)
  have e5 : decide ((240 : Int) ≤ (c : Int)) = true := decide_eq_true (by omega)
  have e6 : decide ((c : Int) ≤ 244) = false := decide_eq_false (by omega)
  have g1 : ((c : Int) == 224) = false := by rw [beq_eq_false_iff_ne]; omega
  have g2 : ((c : Int) == 237) = false := by rw [beq_eq_false_iff_ne]; omega
  have g3 : ((c : Int) == 240) = false := by rw [beq_eq_false_iff_ne]; omega
  have g4 : ((c : Int) == 244) = false := by rw [beq_eq_false_iff_ne]; omega
  obtain ⟨R, hR⟩ : ∃ R, wdG l i 0 128 191 = R := ⟨_, rfl⟩
  rw [hR]
  unfold wdG at hR
  clear hcc h128 hlt
  by_cases hlen : l.length < i + 0
  · exact absurd hlen (by omega)
  · rw [if_neg hlen] at hR
    have hl1 : decide ((l.length : Int) < (i : Int) + 0) = false := decide_eq_false (by omega)
    have hln : ¬ l.length < i + 0 := hlen
    replace hR : Hid _ := hR
    go_enter Tryd.func50, Tryd.ntmps50
    go_wp2_with fail
    go_loop [7, 8, 9] (fun lv hv kv => ∃ (k lw hg : Nat), kv = .int .i64 k ∧ lv = .int .u8 (lw : Nat) ∧ hv = .int .u8 (hg : Nat) ∧ 1 ≤ k ∧ k ≤ 5 ∧ Hid (lw = (if k = 1 then 128 else 128) ∧ hg = (if k = 1 then 191 else 191)) ∧ Hid (wA l i 0 128 191 1 = wA l i 0 128 191 k)) (fun _ _ kv => 5 - (intOf kv).toNat)
    case atStart => exact ⟨1, 128, 191, rfl, rfl, rfl, by omega, by omega, ⟨rfl, rfl⟩, rfl⟩
    case round =>
      obtain ⟨k, lw, hg, rfl, rfl, rfl, hk1, hk5, HL, HA⟩ := hrel
      by_cases hkn : k < 0
      · have hkc : decide ((k : Int) < 0) = true := decide_eq_true (by omega)
        have hxk : ∀ w, (Instr.index 9 (.string ⟨l.toArray⟩) (.int .i64 ((i : Int) + (k : Int)))).run Tryd.prog w = .ok (.int .u8 ((l.getD (i + k) 0).toNat : Nat)) w := fun w => run_ix l (i + k) (by omega) w
        have hst := wA_step l i 0 128 191 k hkn
        have hp : wP l i 128 191 k = (decide (lw ≤ (l.getD (i + k) 0).toNat) && decide ((l.getD (i + k) 0).toNat ≤ hg)) := by
          unfold wP; rw [HL.out.1, HL.out.2]
        rw [hp] at hst
        generalize (l.getD (i + k) 0).toNat = x at *
        by_cases h1 : lw ≤ x
        · have j1 : decide ((x : Int) < (lw : Int)) = false := decide_eq_false (by omega)
          by_cases h2 : x ≤ hg
          · have j2 : decide ((hg : Int) < (x : Int)) = false := decide_eq_false (by omega)
            have HA2 : Hid (wA l i 0 128 191 1 = wA l i 0 128 191 (k + 1)) := by
              unfold Hid; rw [HA.out, hst, decide_eq_true h1, decide_eq_true h2]; rfl
            have jn1 : ¬ x < lw := by omega
            have jn2 : ¬ hg < x := by omega
            have HK : Hid (k < 0 ∧ 1 ≤ k) := ⟨hkn, hk1⟩
            clear hst hp HA HL
            go_wp2_with fail
            go_round
            case rel => exact ⟨k + 1, 128, 191, by go_num, rfl, rfl, by omega, by have := HK.out; omega, by unfold Hid; have := HK.out; rw [if_neg (by omega), if_neg (by omega)]; exact ⟨rfl, rfl⟩, HA2⟩
            case measure => have := HK.out; simp [intOf]; omega
          · have j2 : decide ((hg : Int) < (x : Int)) = true := decide_eq_true (by omega)
            have HX : Hid (0 = R) := by
              unfold Hid; rw [← hR.out, HA.out, hst, decide_eq_false h2, Bool.and_false]; rfl
            have jn1 : ¬ x < lw := by omega
            have jn2 : hg < x := by omega
            clear hst hp HA HL
            go_wp2_with fail
            go_ret
            exact ⟨by rw [← HX.out]; rfl, rfl⟩
        · have j1 : decide ((x : Int) < (lw : Int)) = true := decide_eq_true (by omega)
          have jn1 : x < lw := by omega
          have HX : Hid (0 = R) := by
            unfold Hid; rw [← hR.out, HA.out, hst, decide_eq_false h1]; rfl
          clear hst hp HA HL
          go_wp2_with fail
          go_ret
          exact ⟨by rw [← HX.out]; rfl, rfl⟩
      · have hkc : decide ((k : Int) < 0) = false := decide_eq_false (by omega)
        have HX : Hid (0 = R) := by
          unfold Hid; rw [← hR.out, HA.out, wA_end l i 0 128 191 k (by omega)]; rfl
        go_wp2_with fail
        go_ret
        exact ⟨by rw [← HX.out]; rfl, rfl⟩
set_option maxRecDepth 100000 in
set_option maxHeartbeats 4000000 in
theorem wide_C2 (l : List UInt8) (i c : Nat) (w : World) (hi : i < l.length) (hs : l.length ≤ 1099511627776) (hx : ∀ w, (Instr.index 9 (.string ⟨l.toArray⟩) (.int .i64 (i : Int))).run Tryd.prog w = .ok (.int .u8 (c : Nat)) w) (h128 : 128 ≤ c) (hlt : c < 256) (hcc : 194 ≤ c ∧ c < 224) : Calls Tryd.prog 50 #[.string ⟨l.toArray⟩, .int .i64 (i : Nat)] w fun e w' => e = .returned (.int .i64 (wdG l i 2 128 191 : Nat)) ∧ w' = w := by
  have hsz := sz_mk l
  have d1 : decide ((c : Int) < 128) = false := decide_eq_false (by omega)
  have e1 : decide ((194 : Int) ≤ (c : Int)) = true := decide_eq_true (by omega)
  have e2 : decide ((c : Int) ≤ 223) = true := decide_eq_true (by omega)
  have e3 : decide ((224 : Int) ≤ (c : Int)) = false := decide_eq_false (by omega)
  have e4 : decide ((c : Int) ≤ 239) = true := decide_eq_true (by omega)
  have e5 : decide ((240 : Int) ≤ (c : Int)) = false := decide_eq_false (by omega)
  have e6 : decide ((c : Int) ≤ 244) = true := decide_eq_true (by omega)
  have g1 : ((c : Int) == 224) = false := by rw [beq_eq_false_iff_ne]; omega
  have g2 : ((c : Int) == 237) = false := by rw [beq_eq_false_iff_ne]; omega
  have g3 : ((c : Int) == 240) = false := by rw [beq_eq_false_iff_ne]; omega
  have g4 : ((c : Int) == 244) = false := by rw [beq_eq_false_iff_ne]; omega
  obtain ⟨R, hR⟩ : ∃ R, wdG l i 2 128 191 = R := ⟨_, rfl⟩
  rw [hR]
  unfold wdG at hR
  clear hcc h128 hlt
  by_cases hlen : l.length < i + 2
  · rw [if_pos hlen] at hR
    have hl1 : decide ((l.length : Int) < (i : Int) + 2) = true := decide_eq_true (by omega)
    replace hR : Hid _ := hR
    go_enter Tryd.func50, Tryd.ntmps50
    go_wp2_with fail
    go_ret
    exact ⟨by rw [← hR.out]; rfl, rfl⟩
  · rw [if_neg hlen] at hR
    have hl1 : decide ((l.length : Int) < (i : Int) + 2) = false := decide_eq_false (by omega)
    have hln : ¬ l.length < i + 2 := hlen
    replace hR : Hid _ := hR
    go_enter Tryd.func50, Tryd.ntmps50
    go_wp2_with fail
    go_loop [7, 8, 9] (fun lv hv kv => ∃ (k lw hg : Nat), kv = .int .i64 k ∧ lv = .int .u8 (lw : Nat) ∧ hv = .int .u8 (hg : Nat) ∧ 1 ≤ k ∧ k ≤ 5 ∧ Hid (lw = (if k = 1 then 128 else 128) ∧ hg = (if k = 1 then 191 else 191)) ∧ Hid (wA l i 2 128 191 1 = wA l i 2 128 191 k)) (fun _ _ kv => 5 - (intOf kv).toNat)
    case atStart => exact ⟨1, 128, 191, rfl, rfl, rfl, by omega, by omega, ⟨rfl, rfl⟩, rfl⟩
    case round =>
      obtain ⟨k, lw, hg, rfl, rfl, rfl, hk1, hk5, HL, HA⟩ := hrel
      by_cases hkn : k < 2
      · have hkc : decide ((k : Int) < 2) = true := decide_eq_true (by omega)
        have hxk : ∀ w, (Instr.index 9 (.string ⟨l.toArray⟩) (.int .i64 ((i : Int) + (k : Int)))).run Tryd.prog w = .ok (.int .u8 ((l.getD (i + k) 0).toNat : Nat)) w := fun w => run_ix l (i + k) (by omega) w
        have hst := wA_step l i 2 128 191 k hkn
        have hp : wP l i 128 191 k = (decide (lw ≤ (l.getD (i + k) 0).toNat) && decide ((l.getD (i + k) 0).toNat ≤ hg)) := by
          unfold wP; rw [HL.out.1, HL.out.2]
        rw [hp] at hst
        generalize (l.getD (i + k) 0).toNat = x at *
        by_cases h1 : lw ≤ x
        · have j1 : decide ((x : Int) < (lw : Int)) = false := decide_eq_false (by omega)
          by_cases h2 : x ≤ hg
          · have j2 : decide ((hg : Int) < (x : Int)) = false := decide_eq_false (by omega)
            have HA2 : Hid (wA l i 2 128 191 1 = wA l i 2 128 191 (k + 1)) := by
              unfold Hid; rw [HA.out, hst, decide_eq_true h1, decide_eq_true h2]; rfl
            have jn1 : ¬ x < lw := by omega
            have jn2 : ¬ hg < x := by omega
            have HK : Hid (k < 2 ∧ 1 ≤ k) := ⟨hkn, hk1⟩
            clear hst hp HA HL
            go_wp2_with fail
            go_round
            case rel => exact ⟨k + 1, 128, 191, by go_num, rfl, rfl, by omega, by have := HK.out; omega, by unfold Hid; have := HK.out; rw [if_neg (by omega), if_neg (by omega)]; exact ⟨rfl, rfl⟩, HA2⟩
            case measure => have := HK.out; simp [intOf]; omega
          · have j2 : decide ((hg : Int) < (x : Int)) = true := decide_eq_true (by omega)
            have HX : Hid (0 = R) := by
              unfold Hid; rw [← hR.out, HA.out, hst, decide_eq_false h2, Bool.and_false]; rfl
            have jn1 : ¬ x < lw := by omega
            have jn2 : hg < x := by omega
            clear hst hp HA HL
            go_wp2_with fail
            go_ret
            exact ⟨by rw [← HX.out]; rfl, rfl⟩
        · have j1 : decide ((x : Int) < (lw : Int)) = true := decide_eq_true (by omega)
          have jn1 : x < lw := by omega
          have HX : Hid (0 = R) := by
            unfold Hid; rw [← hR.out, HA.out, hst, decide_eq_false h1]; rfl
          clear hst hp HA HL
          go_wp2_with fail
          go_ret
          exact ⟨by rw [← HX.out]; rfl, rfl⟩
      · have hkc : decide ((k : Int) < 2) = false := decide_eq_false (by omega)
        have HX : Hid (2 = R) := by
          unfold Hid; rw [← hR.out, HA.out, wA_end l i 2 128 191 k (by omega)]; rfl
        go_wp2_with fail
        go_ret
        exact ⟨by rw [← HX.out]; rfl, rfl⟩
set_option maxRecDepth 100000 in
set_option maxHeartbeats 4000000 in
theorem wide_E0 (l : List UInt8) (i c : Nat) (w : World) (hi : i < l.length) (hs : l.length ≤ 1099511627776) (hx : ∀ w, (Instr.index 9 (.string ⟨l.toArray⟩) (.int .i64 (i : Int))).run Tryd.prog w = .ok (.int .u8 (c : Nat)) w) (h128 : 128 ≤ c) (hlt : c < 256) (hcc : c = 224) : Calls Tryd.prog 50 #[.string ⟨l.toArray⟩, .int .i64 (i : Nat)] w fun e w' => e = .returned (.int .i64 (wdG l i 3 160 191 : Nat)) ∧ w' = w := by
  have hsz := sz_mk l
  have d1 : decide ((c : Int) < 128) = false := decide_eq_false (by omega)
  have e1 : decide ((194 : Int) ≤ (c : Int)) = true := decide_eq_true (by omega)
  have e2 : decide ((c : Int) ≤ 223) = false := decide_eq_false (by omega)
  have e3 : decide ((224 : Int) ≤ (c : Int)) = true := decide_eq_true (by omega)
  have e4 : decide ((c : Int) ≤ 239) = true := decide_eq_true (by omega)
  have e5 : decide ((240 : Int) ≤ (c : Int)) = false := decide_eq_false (by omega)
  have e6 : decide ((c : Int) ≤ 244) = true := decide_eq_true (by omega)
  have g1 : ((c : Int) == 224) = true := by rw [beq_iff_eq]; omega
  have g2 : ((c : Int) == 237) = false := by rw [beq_eq_false_iff_ne]; omega
  have g3 : ((c : Int) == 240) = false := by rw [beq_eq_false_iff_ne]; omega
  have g4 : ((c : Int) == 244) = false := by rw [beq_eq_false_iff_ne]; omega
  obtain ⟨R, hR⟩ : ∃ R, wdG l i 3 160 191 = R := ⟨_, rfl⟩
  rw [hR]
  unfold wdG at hR
  clear hcc h128 hlt
  by_cases hlen : l.length < i + 3
  · rw [if_pos hlen] at hR
    have hl1 : decide ((l.length : Int) < (i : Int) + 3) = true := decide_eq_true (by omega)
    replace hR : Hid _ := hR
    go_enter Tryd.func50, Tryd.ntmps50
    go_wp2_with fail
    go_ret
    exact ⟨by rw [← hR.out]; rfl, rfl⟩
  · rw [if_neg hlen] at hR
    have hl1 : decide ((l.length : Int) < (i : Int) + 3) = false := decide_eq_false (by omega)
    have hln : ¬ l.length < i + 3 := hlen
    replace hR : Hid _ := hR
    go_enter Tryd.func50, Tryd.ntmps50
    go_wp2_with fail
    go_loop [7, 8, 9] (fun lv hv kv => ∃ (k lw hg : Nat), kv = .int .i64 k ∧ lv = .int .u8 (lw : Nat) ∧ hv = .int .u8 (hg : Nat) ∧ 1 ≤ k ∧ k ≤ 5 ∧ Hid (lw = (if k = 1 then 160 else 128) ∧ hg = (if k = 1 then 191 else 191)) ∧ Hid (wA l i 3 160 191 1 = wA l i 3 160 191 k)) (fun _ _ kv => 5 - (intOf kv).toNat)
    case atStart => exact ⟨1, 160, 191, rfl, rfl, rfl, by omega, by omega, ⟨rfl, rfl⟩, rfl⟩
    case round =>
      obtain ⟨k, lw, hg, rfl, rfl, rfl, hk1, hk5, HL, HA⟩ := hrel
      by_cases hkn : k < 3
      · have hkc : decide ((k : Int) < 3) = true := decide_eq_true (by omega)
        have hxk : ∀ w, (Instr.index 9 (.string ⟨l.toArray⟩) (.int .i64 ((i : Int) + (k : Int)))).run Tryd.prog w = .ok (.int .u8 ((l.getD (i + k) 0).toNat : Nat)) w := fun w => run_ix l (i + k) (by omega) w
        have hst := wA_step l i 3 160 191 k hkn
        have hp : wP l i 160 191 k = (decide (lw ≤ (l.getD (i + k) 0).toNat) && decide ((l.getD (i + k) 0).toNat ≤ hg)) := by
          unfold wP; rw [HL.out.1, HL.out.2]
        rw [hp] at hst
        generalize (l.getD (i + k) 0).toNat = x at *
        by_cases h1 : lw ≤ x
        · have j1 : decide ((x : Int) < (lw : Int)) = false := decide_eq_false (by omega)
          by_cases h2 : x ≤ hg
          · have j2 : decide ((hg : Int) < (x : Int)) = false := decide_eq_false (by omega)
            have HA2 : Hid (wA l i 3 160 191 1 = wA l i 3 160 191 (k + 1)) := by
              unfold Hid; rw [HA.out, hst, decide_eq_true h1, decide_eq_true h2]; rfl
            have jn1 : ¬ x < lw := by omega
            have jn2 : ¬ hg < x := by omega
            have HK : Hid (k < 3 ∧ 1 ≤ k) := ⟨hkn, hk1⟩
            clear hst hp HA HL
            go_wp2_with fail
            go_round
            case rel => exact ⟨k + 1, 128, 191, by go_num, rfl, rfl, by omega, by have := HK.out; omega, by unfold Hid; have := HK.out; rw [if_neg (by omega), if_neg (by omega)]; exact ⟨rfl, rfl⟩, HA2⟩
            case measure => have := HK.out; simp [intOf]; omega
          · have j2 : decide ((hg : Int) < (x : Int)) = true := decide_eq_true (by omega)
            have HX : Hid (0 = R) := by
              unfold Hid; rw [← hR.out, HA.out, hst, decide_eq_false h2, Bool.and_false]; rfl
            have jn1 : ¬ x < lw := by omega
            have jn2 : hg < x := by omega
            clear hst hp HA HL
            go_wp2_with fail
            go_ret
            exact ⟨by rw [← HX.out]; rfl, rfl⟩
        · have j1 : decide ((x : Int) < (lw : Int)) = true := decide_eq_true (by omega)
          have jn1 : x < lw := by omega
          have HX : Hid (0 = R) := by
            unfold Hid; rw [← hR.out, HA.out, hst, decide_eq_false h1]; rfl
          clear hst hp HA HL
          go_wp2_with fail
          go_ret
          exact ⟨by rw [← HX.out]; rfl, rfl⟩
      · have hkc : decide ((k : Int) < 3) = false := decide_eq_false (by omega)
        have HX : Hid (3 = R) := by
          unfold Hid; rw [← hR.out, HA.out, wA_end l i 3 160 191 k (by omega)]; rfl
        go_wp2_with fail
        go_ret
        exact ⟨by rw [← HX.out]; rfl, rfl⟩
set_option maxRecDepth 100000 in
set_option maxHeartbeats 4000000 in
theorem wide_ED (l : List UInt8) (i c : Nat) (w : World) (hi : i < l.length) (hs : l.length ≤ 1099511627776) (hx : ∀ w, (Instr.index 9 (.string ⟨l.toArray⟩) (.int .i64 (i : Int))).run Tryd.prog w = .ok (.int .u8 (c : Nat)) w) (h128 : 128 ≤ c) (hlt : c < 256) (hcc : c = 237) : Calls Tryd.prog 50 #[.string ⟨l.toArray⟩, .int .i64 (i : Nat)] w fun e w' => e = .returned (.int .i64 (wdG l i 3 128 159 : Nat)) ∧ w' = w := by
  have hsz := sz_mk l
  have d1 : decide ((c : Int) < 128) = false := decide_eq_false (by omega)
  have e1 : decide ((194 : Int) ≤ (c : Int)) = true := decide_eq_true (by omega)
  have e2 : decide ((c : Int) ≤ 223) = false := decide_eq_false (by omega)
  have e3 : decide ((224 : Int) ≤ (c : Int)) = true := decide_eq_true (by omega)
  have e4 : decide ((c : Int) ≤ 239) = true := decide_eq_true (by omega)
  have e5 : decide ((240 : Int) ≤ (c : Int)) = false := decide_eq_false (by omega)
  have e6 : decide ((c : Int) ≤ 244) = true := decide_eq_true (by omega)
  have g1 : ((c : Int) == 224) = false := by rw [beq_eq_false_iff_ne]; omega
  have g2 : ((c : Int) == 237) = true := by rw [beq_iff_eq]; omega
  have g3 : ((c : Int) == 240) = false := by rw [beq_eq_false_iff_ne]; omega
  have g4 : ((c : Int) == 244) = false := by rw [beq_eq_false_iff_ne]; omega
  obtain ⟨R, hR⟩ : ∃ R, wdG l i 3 128 159 = R := ⟨_, rfl⟩
  rw [hR]
  unfold wdG at hR
  clear hcc h128 hlt
  by_cases hlen : l.length < i + 3
  · rw [if_pos hlen] at hR
    have hl1 : decide ((l.length : Int) < (i : Int) + 3) = true := decide_eq_true (by omega)
    replace hR : Hid _ := hR
    go_enter Tryd.func50, Tryd.ntmps50
    go_wp2_with fail
    go_ret
    exact ⟨by rw [← hR.out]; rfl, rfl⟩
  · rw [if_neg hlen] at hR
    have hl1 : decide ((l.length : Int) < (i : Int) + 3) = false := decide_eq_false (by omega)
    have hln : ¬ l.length < i + 3 := hlen
    replace hR : Hid _ := hR
    go_enter Tryd.func50, Tryd.ntmps50
    go_wp2_with fail
    go_loop [7, 8, 9] (fun lv hv kv => ∃ (k lw hg : Nat), kv = .int .i64 k ∧ lv = .int .u8 (lw : Nat) ∧ hv = .int .u8 (hg : Nat) ∧ 1 ≤ k ∧ k ≤ 5 ∧ Hid (lw = (if k = 1 then 128 else 128) ∧ hg = (if k = 1 then 159 else 191)) ∧ Hid (wA l i 3 128 159 1 = wA l i 3 128 159 k)) (fun _ _ kv => 5 - (intOf kv).toNat)
    case atStart => exact ⟨1, 128, 159, rfl, rfl, rfl, by omega, by omega, ⟨rfl, rfl⟩, rfl⟩
    case round =>
      obtain ⟨k, lw, hg, rfl, rfl, rfl, hk1, hk5, HL, HA⟩ := hrel
      by_cases hkn : k < 3
      · have hkc : decide ((k : Int) < 3) = true := decide_eq_true (by omega)
        have hxk : ∀ w, (Instr.index 9 (.string ⟨l.toArray⟩) (.int .i64 ((i : Int) + (k : Int)))).run Tryd.prog w = .ok (.int .u8 ((l.getD (i + k) 0).toNat : Nat)) w := fun w => run_ix l (i + k) (by omega) w
        have hst := wA_step l i 3 128 159 k hkn
        have hp : wP l i 128 159 k = (decide (lw ≤ (l.getD (i + k) 0).toNat) && decide ((l.getD (i + k) 0).toNat ≤ hg)) := by
          unfold wP; rw [HL.out.1, HL.out.2]
        rw [hp] at hst
        generalize (l.getD (i + k) 0).toNat = x at *
        by_cases h1 : lw ≤ x
        · have j1 : decide ((x : Int) < (lw : Int)) = false := decide_eq_false (by omega)
          by_cases h2 : x ≤ hg
          · have j2 : decide ((hg : Int) < (x : Int)) = false := decide_eq_false (by omega)
            have HA2 : Hid (wA l i 3 128 159 1 = wA l i 3 128 159 (k + 1)) := by
              unfold Hid; rw [HA.out, hst, decide_eq_true h1, decide_eq_true h2]; rfl
            have jn1 : ¬ x < lw := by omega
            have jn2 : ¬ hg < x := by omega
            have HK : Hid (k < 3 ∧ 1 ≤ k) := ⟨hkn, hk1⟩
            clear hst hp HA HL
            go_wp2_with fail
            go_round
            case rel => exact ⟨k + 1, 128, 191, by go_num, rfl, rfl, by omega, by have := HK.out; omega, by unfold Hid; have := HK.out; rw [if_neg (by omega), if_neg (by omega)]; exact ⟨rfl, rfl⟩, HA2⟩
            case measure => have := HK.out; simp [intOf]; omega
          · have j2 : decide ((hg : Int) < (x : Int)) = true := decide_eq_true (by omega)
            have HX : Hid (0 = R) := by
              unfold Hid; rw [← hR.out, HA.out, hst, decide_eq_false h2, Bool.and_false]; rfl
            have jn1 : ¬ x < lw := by omega
            have jn2 : hg < x := by omega
            clear hst hp HA HL
            go_wp2_with fail
            go_ret
            exact ⟨by rw [← HX.out]; rfl, rfl⟩
        · have j1 : decide ((x : Int) < (lw : Int)) = true := decide_eq_true (by omega)
          have jn1 : x < lw := by omega
          have HX : Hid (0 = R) := by
            unfold Hid; rw [← hR.out, HA.out, hst, decide_eq_false h1]; rfl
          clear hst hp HA HL
          go_wp2_with fail
          go_ret
          exact ⟨by rw [← HX.out]; rfl, rfl⟩
      · have hkc : decide ((k : Int) < 3) = false := decide_eq_false (by omega)
        have HX : Hid (3 = R) := by
          unfold Hid; rw [← hR.out, HA.out, wA_end l i 3 128 159 k (by omega)]; rfl
        go_wp2_with fail
        go_ret
        exact ⟨by rw [← HX.out]; rfl, rfl⟩
set_option maxRecDepth 100000 in
set_option maxHeartbeats 4000000 in
theorem wide_E1 (l : List UInt8) (i c : Nat) (w : World) (hi : i < l.length) (hs : l.length ≤ 1099511627776) (hx : ∀ w, (Instr.index 9 (.string ⟨l.toArray⟩) (.int .i64 (i : Int))).run Tryd.prog w = .ok (.int .u8 (c : Nat)) w) (h128 : 128 ≤ c) (hlt : c < 256) (hcc : (225 ≤ c ∧ c < 237) ∨ (238 ≤ c ∧ c < 240)) : Calls Tryd.prog 50 #[.string ⟨l.toArray⟩, .int .i64 (i : Nat)] w fun e w' => e = .returned (.int .i64 (wdG l i 3 128 191 : Nat)) ∧ w' = w := by
  have hsz := sz_mk l
  have d1 : decide ((c : Int) < 128) = false := decide_eq_false (by omega)
  have e1 : decide ((194 : Int) ≤ (c : Int)) = true := decide_eq_true (by omega)
  have e2 : decide ((c : Int) ≤ 223) = false := decide_eq_false (by omega)
  have e3 : decide ((224 : Int) ≤ (c : Int)) = true := decide_eq_true (by omega)
  have e4 : decide ((c : Int) ≤ 239) = true := decide_eq_true (by omega)
  have e5 : decide ((240 : Int) ≤ (c : Int)) = false := decide_eq_false (by omega)
  have e6 : decide ((c : Int) ≤ 244) = true := decide_eq_true (by omega)
  have g1 : ((c : Int) == 224) = false := by rw [beq_eq_false_iff_ne]; omega
  have g2 : ((c : Int) == 237) = false := by rw [beq_eq_false_iff_ne]; omega
  have g3 : ((c : Int) == 240) = false := by rw [beq_eq_false_iff_ne]; omega
  have g4 : ((c : Int) == 244) = false := by rw [beq_eq_false_iff_ne]; omega
  obtain ⟨R, hR⟩ : ∃ R, wdG l i 3 128 191 = R := ⟨_, rfl⟩
  rw [hR]
  unfold wdG at hR
  clear hcc h128 hlt
  by_cases hlen : l.length < i + 3
  · rw [if_pos hlen] at hR
    have hl1 : decide ((l.length : Int) < (i : Int) + 3) = true := decide_eq_true (by omega)
    replace hR : Hid _ := hR
    go_enter Tryd.func50, Tryd.ntmps50
    go_wp2_with fail
    go_ret
    exact ⟨by rw [← hR.out]; rfl, rfl⟩
  · rw [if_neg hlen] at hR
    have hl1 : decide ((l.length : Int) < (i : Int) + 3) = false := decide_eq_false (by omega)
    have hln : ¬ l.length < i + 3 := hlen
    replace hR : Hid _ := hR
    go_enter Tryd.func50, Tryd.ntmps50
    go_wp2_with fail
    go_loop [7, 8, 9] (fun lv hv kv => ∃ (k lw hg : Nat), kv = .int .i64 k ∧ lv = .int .u8 (lw : Nat) ∧ hv = .int .u8 (hg : Nat) ∧ 1 ≤ k ∧ k ≤ 5 ∧ Hid (lw = (if k = 1 then 128 else 128) ∧ hg = (if k = 1 then 191 else 191)) ∧ Hid (wA l i 3 128 191 1 = wA l i 3 128 191 k)) (fun _ _ kv => 5 - (intOf kv).toNat)
    case atStart => exact ⟨1, 128, 191, rfl, rfl, rfl, by omega, by omega, ⟨rfl, rfl⟩, rfl⟩
    case round =>
      obtain ⟨k, lw, hg, rfl, rfl, rfl, hk1, hk5, HL, HA⟩ := hrel
      by_cases hkn : k < 3
      · have hkc : decide ((k : Int) < 3) = true := decide_eq_true (by omega)
        have hxk : ∀ w, (Instr.index 9 (.string ⟨l.toArray⟩) (.int .i64 ((i : Int) + (k : Int)))).run Tryd.prog w = .ok (.int .u8 ((l.getD (i + k) 0).toNat : Nat)) w := fun w => run_ix l (i + k) (by omega) w
        have hst := wA_step l i 3 128 191 k hkn
        have hp : wP l i 128 191 k = (decide (lw ≤ (l.getD (i + k) 0).toNat) && decide ((l.getD (i + k) 0).toNat ≤ hg)) := by
          unfold wP; rw [HL.out.1, HL.out.2]
        rw [hp] at hst
        generalize (l.getD (i + k) 0).toNat = x at *
        by_cases h1 : lw ≤ x
        · have j1 : decide ((x : Int) < (lw : Int)) = false := decide_eq_false (by omega)
          by_cases h2 : x ≤ hg
          · have j2 : decide ((hg : Int) < (x : Int)) = false := decide_eq_false (by omega)
            have HA2 : Hid (wA l i 3 128 191 1 = wA l i 3 128 191 (k + 1)) := by
              unfold Hid; rw [HA.out, hst, decide_eq_true h1, decide_eq_true h2]; rfl
            have jn1 : ¬ x < lw := by omega
            have jn2 : ¬ hg < x := by omega
            have HK : Hid (k < 3 ∧ 1 ≤ k) := ⟨hkn, hk1⟩
            clear hst hp HA HL
            go_wp2_with fail
            go_round
            case rel => exact ⟨k + 1, 128, 191, by go_num, rfl, rfl, by omega, by have := HK.out; omega, by unfold Hid; have := HK.out; rw [if_neg (by omega), if_neg (by omega)]; exact ⟨rfl, rfl⟩, HA2⟩
            case measure => have := HK.out; simp [intOf]; omega
          · have j2 : decide ((hg : Int) < (x : Int)) = true := decide_eq_true (by omega)
            have HX : Hid (0 = R) := by
              unfold Hid; rw [← hR.out, HA.out, hst, decide_eq_false h2, Bool.and_false]; rfl
            have jn1 : ¬ x < lw := by omega
            have jn2 : hg < x := by omega
            clear hst hp HA HL
            go_wp2_with fail
            go_ret
            exact ⟨by rw [← HX.out]; rfl, rfl⟩
        · have j1 : decide ((x : Int) < (lw : Int)) = true := decide_eq_true (by omega)
          have jn1 : x < lw := by omega
          have HX : Hid (0 = R) := by
            unfold Hid; rw [← hR.out, HA.out, hst, decide_eq_false h1]; rfl
          clear hst hp HA HL
          go_wp2_with fail
          go_ret
          exact ⟨by rw [← HX.out]; rfl, rfl⟩
      · have hkc : decide ((k : Int) < 3) = false := decide_eq_false (by omega)
        have HX : Hid (3 = R) := by
          unfold Hid; rw [← hR.out, HA.out, wA_end l i 3 128 191 k (by omega)]; rfl
        go_wp2_with fail
        go_ret
        exact ⟨by rw [← HX.out]; rfl, rfl⟩
set_option maxRecDepth 100000 in
set_option maxHeartbeats 4000000 in
theorem wide_F0 (l : List UInt8) (i c : Nat) (w : World) (hi : i < l.length) (hs : l.length ≤ 1099511627776) (hx : ∀ w, (Instr.index 9 (.string ⟨l.toArray⟩) (.int .i64 (i : Int))).run Tryd.prog w = .ok (.int .u8 (c : Nat)) w) (h128 : 128 ≤ c) (hlt : c < 256) (hcc : c = 240) : Calls Tryd.prog 50 #[.string ⟨l.toArray⟩, .int .i64 (i : Nat)] w fun e w' => e = .returned (.int .i64 (wdG l i 4 144 191 : Nat)) ∧ w' = w := by
  have hsz := sz_mk l
  have d1 : decide ((c : Int) < 128) = false := decide_eq_false (by omega)
  have e1 : decide ((194 : Int) ≤ (c : Int)) = true := decide_eq_true (by omega)
  have e2 : decide ((c : Int) ≤ 223) = false := decide_eq_false (by omega)
  have e3 : decide ((224 : Int) ≤ (c : Int)) = true := decide_eq_true (by omega)
  have e4 : decide ((c : Int) ≤ 239) = false := decide_eq_false (by omega)
  have e5 : decide ((240 : Int) ≤ (c : Int)) = true := decide_eq_true (by omega)
  have e6 : decide ((c : Int) ≤ 244) = true := decide_eq_true (by omega)
  have g1 : ((c : Int) == 224) = false := by rw [beq_eq_false_iff_ne]; omega
  have g2 : ((c : Int) == 237) = false := by rw [beq_eq_false_iff_ne]; omega
  have g3 : ((c : Int) == 240) = true := by rw [beq_iff_eq]; omega
  have g4 : ((c : Int) == 244) = false := by rw [beq_eq_false_iff_ne]; omega
  obtain ⟨R, hR⟩ : ∃ R, wdG l i 4 144 191 = R := ⟨_, rfl⟩
  rw [hR]
  unfold wdG at hR
  clear hcc h128 hlt
  by_cases hlen : l.length < i + 4
  · rw [if_pos hlen] at hR
    have hl1 : decide ((l.length : Int) < (i : Int) + 4) = true := decide_eq_true (by omega)
    replace hR : Hid _ := hR
    go_enter Tryd.func50, Tryd.ntmps50
    go_wp2_with fail
    go_ret
    exact ⟨by rw [← hR.out]; rfl, rfl⟩
  · rw [if_neg hlen] at hR
    have hl1 : decide ((l.length : Int) < (i : Int) + 4) = false := decide_eq_false (by omega)
    have hln : ¬ l.length < i + 4 := hlen
    replace hR : Hid _ := hR
    go_enter Tryd.func50, Tryd.ntmps50
    go_wp2_with fail
    go_loop [7, 8, 9] (fun lv hv kv => ∃ (k lw hg : Nat), kv = .int .i64 k ∧ lv = .int .u8 (lw : Nat) ∧ hv = .int .u8 (hg : Nat) ∧ 1 ≤ k ∧ k ≤ 5 ∧ Hid (lw = (if k = 1 then 144 else 128) ∧ hg = (if k = 1 then 191 else 191)) ∧ Hid (wA l i 4 144 191 1 = wA l i 4 144 191 k)) (fun _ _ kv => 5 - (intOf kv).toNat)
    case atStart => exact ⟨1, 144, 191, rfl, rfl, rfl, by omega, by omega, ⟨rfl, rfl⟩, rfl⟩
    case round =>
      obtain ⟨k, lw, hg, rfl, rfl, rfl, hk1, hk5, HL, HA⟩ := hrel
      by_cases hkn : k < 4
      · have hkc : decide ((k : Int) < 4) = true := decide_eq_true (by omega)
        have hxk : ∀ w, (Instr.index 9 (.string ⟨l.toArray⟩) (.int .i64 ((i : Int) + (k : Int)))).run Tryd.prog w = .ok (.int .u8 ((l.getD (i + k) 0).toNat : Nat)) w := fun w => run_ix l (i + k) (by omega) w
        have hst := wA_step l i 4 144 191 k hkn
        have hp : wP l i 144 191 k = (decide (lw ≤ (l.getD (i + k) 0).toNat) && decide ((l.getD (i + k) 0).toNat ≤ hg)) := by
          unfold wP; rw [HL.out.1, HL.out.2]
        rw [hp] at hst
        generalize (l.getD (i + k) 0).toNat = x at *
        by_cases h1 : lw ≤ x
        · have j1 : decide ((x : Int) < (lw : Int)) = false := decide_eq_false (by omega)
          by_cases h2 : x ≤ hg
          · have j2 : decide ((hg : Int) < (x : Int)) = false := decide_eq_false (by omega)
            have HA2 : Hid (wA l i 4 144 191 1 = wA l i 4 144 191 (k + 1)) := by
              unfold Hid; rw [HA.out, hst, decide_eq_true h1, decide_eq_true h2]; rfl
            have jn1 : ¬ x < lw := by omega
            have jn2 : ¬ hg < x := by omega
            have HK : Hid (k < 4 ∧ 1 ≤ k) := ⟨hkn, hk1⟩
            clear hst hp HA HL
            go_wp2_with fail
            go_round
            case rel => exact ⟨k + 1, 128, 191, by go_num, rfl, rfl, by omega, by have := HK.out; omega, by unfold Hid; have := HK.out; rw [if_neg (by omega), if_neg (by omega)]; exact ⟨rfl, rfl⟩, HA2⟩
            case measure => have := HK.out; simp [intOf]; omega
          · have j2 : decide ((hg : Int) < (x : Int)) = true := decide_eq_true (by omega)
            have HX : Hid (0 = R) := by
              unfold Hid; rw [← hR.out, HA.out, hst, decide_eq_false h2, Bool.and_false]; rfl
            have jn1 : ¬ x < lw := by omega
            have jn2 : hg < x := by omega
            clear hst hp HA HL
            go_wp2_with fail
            go_ret
            exact ⟨by rw [← HX.out]; rfl, rfl⟩
        · have j1 : decide ((x : Int) < (lw : Int)) = true := decide_eq_true (by omega)
          have jn1 : x < lw := by omega
          have HX : Hid (0 = R) := by
            unfold Hid; rw [← hR.out, HA.out, hst, decide_eq_false h1]; rfl
          clear hst hp HA HL
          go_wp2_with fail
          go_ret
          exact ⟨by rw [← HX.out]; rfl, rfl⟩
      · have hkc : decide ((k : Int) < 4) = false := decide_eq_false (by omega)
        have HX : Hid (4 = R) := by
          unfold Hid; rw [← hR.out, HA.out, wA_end l i 4 144 191 k (by omega)]; rfl
        go_wp2_with fail
        go_ret
        exact ⟨by rw [← HX.out]; rfl, rfl⟩
set_option maxRecDepth 100000 in
set_option maxHeartbeats 4000000 in
theorem wide_F4 (l : List UInt8) (i c : Nat) (w : World) (hi : i < l.length) (hs : l.length ≤ 1099511627776) (hx : ∀ w, (Instr.index 9 (.string ⟨l.toArray⟩) (.int .i64 (i : Int))).run Tryd.prog w = .ok (.int .u8 (c : Nat)) w) (h128 : 128 ≤ c) (hlt : c < 256) (hcc : c = 244) : Calls Tryd.prog 50 #[.string ⟨l.toArray⟩, .int .i64 (i : Nat)] w fun e w' => e = .returned (.int .i64 (wdG l i 4 128 143 : Nat)) ∧ w' = w := by
  have hsz := sz_mk l
  have d1 : decide ((c : Int) < 128) = false := decide_eq_false (by omega)
  have e1 : decide ((194 : Int) ≤ (c : Int)) = true := decide_eq_true (by omega)
  have e2 : decide ((c : Int) ≤ 223) = false := decide_eq_false (by omega)
  have e3 : decide ((224 : Int) ≤ (c : Int)) = true := decide_eq_true (by omega)
  have e4 : decide ((c : Int) ≤ 239) = false := decide_eq_false (by omega)
  have e5 : decide ((240 : Int) ≤ (c : Int)) = true := decide_eq_true (by omega)
  have e6 : decide ((c : Int) ≤ 244) = true := decide_eq_true (by omega)
  have g1 : ((c : Int) == 224) = false := by rw [beq_eq_false_iff_ne]; omega
  have g2 : ((c : Int) == 237) = false := by rw [beq_eq_false_iff_ne]; omega
  have g3 : ((c : Int) == 240) = false := by rw [beq_eq_false_iff_ne]; omega
  have g4 : ((c : Int) == 244) = true := by rw [beq_iff_eq]; omega
  obtain ⟨R, hR⟩ : ∃ R, wdG l i 4 128 143 = R := ⟨_, rfl⟩
  rw [hR]
  unfold wdG at hR
  clear hcc h128 hlt
  by_cases hlen : l.length < i + 4
  · rw [if_pos hlen] at hR
    have hl1 : decide ((l.length : Int) < (i : Int) + 4) = true := decide_eq_true (by omega)
    replace hR : Hid _ := hR
    go_enter Tryd.func50, Tryd.ntmps50
    go_wp2_with fail
    go_ret
    exact ⟨by rw [← hR.out]; rfl, rfl⟩
  · rw [if_neg hlen] at hR
    have hl1 : decide ((l.length : Int) < (i : Int) + 4) = false := decide_eq_false (by omega)
    have hln : ¬ l.length < i + 4 := hlen
    replace hR : Hid _ := hR
    go_enter Tryd.func50, Tryd.ntmps50
    go_wp2_with fail
    go_loop [7, 8, 9] (fun lv hv kv => ∃ (k lw hg : Nat), kv = .int .i64 k ∧ lv = .int .u8 (lw : Nat) ∧ hv = .int .u8 (hg : Nat) ∧ 1 ≤ k ∧ k ≤ 5 ∧ Hid (lw = (if k = 1 then 128 else 128) ∧ hg = (if k = 1 then 143 else 191)) ∧ Hid (wA l i 4 128 143 1 = wA l i 4 128 143 k)) (fun _ _ kv => 5 - (intOf kv).toNat)
    case atStart => exact ⟨1, 128, 143, rfl, rfl, rfl, by omega, by omega, ⟨rfl, rfl⟩, rfl⟩
    case round =>
      obtain ⟨k, lw, hg, rfl, rfl, rfl, hk1, hk5, HL, HA⟩ := hrel
      by_cases hkn : k < 4
      · have hkc : decide ((k : Int) < 4) = true := decide_eq_true (by omega)
        have hxk : ∀ w, (Instr.index 9 (.string ⟨l.toArray⟩) (.int .i64 ((i : Int) + (k : Int)))).run Tryd.prog w = .ok (.int .u8 ((l.getD (i + k) 0).toNat : Nat)) w := fun w => run_ix l (i + k) (by omega) w
        have hst := wA_step l i 4 128 143 k hkn
        have hp : wP l i 128 143 k = (decide (lw ≤ (l.getD (i + k) 0).toNat) && decide ((l.getD (i + k) 0).toNat ≤ hg)) := by
          unfold wP; rw [HL.out.1, HL.out.2]
        rw [hp] at hst
        generalize (l.getD (i + k) 0).toNat = x at *
        by_cases h1 : lw ≤ x
        · have j1 : decide ((x : Int) < (lw : Int)) = false := decide_eq_false (by omega)
          by_cases h2 : x ≤ hg
          · have j2 : decide ((hg : Int) < (x : Int)) = false := decide_eq_false (by omega)
            have HA2 : Hid (wA l i 4 128 143 1 = wA l i 4 128 143 (k + 1)) := by
              unfold Hid; rw [HA.out, hst, decide_eq_true h1, decide_eq_true h2]; rfl
            have jn1 : ¬ x < lw := by omega
            have jn2 : ¬ hg < x := by omega
            have HK : Hid (k < 4 ∧ 1 ≤ k) := ⟨hkn, hk1⟩
            clear hst hp HA HL
            go_wp2_with fail
            go_round
            case rel => exact ⟨k + 1, 128, 191, by go_num, rfl, rfl, by omega, by have := HK.out; omega, by unfold Hid; have := HK.out; rw [if_neg (by omega), if_neg (by omega)]; exact ⟨rfl, rfl⟩, HA2⟩
            case measure => have := HK.out; simp [intOf]; omega
          · have j2 : decide ((hg : Int) < (x : Int)) = true := decide_eq_true (by omega)
            have HX : Hid (0 = R) := by
              unfold Hid; rw [← hR.out, HA.out, hst, decide_eq_false h2, Bool.and_false]; rfl
            have jn1 : ¬ x < lw := by omega
            have jn2 : hg < x := by omega
            clear hst hp HA HL
            go_wp2_with fail
            go_ret
            exact ⟨by rw [← HX.out]; rfl, rfl⟩
        · have j1 : decide ((x : Int) < (lw : Int)) = true := decide_eq_true (by omega)
          have jn1 : x < lw := by omega
          have HX : Hid (0 = R) := by
            unfold Hid; rw [← hR.out, HA.out, hst, decide_eq_false h1]; rfl
          clear hst hp HA HL
          go_wp2_with fail
          go_ret
          exact ⟨by rw [← HX.out]; rfl, rfl⟩
      · have hkc : decide ((k : Int) < 4) = false := decide_eq_false (by omega)
        have HX : Hid (4 = R) := by
          unfold Hid; rw [← hR.out, HA.out, wA_end l i 4 128 143 k (by omega)]; rfl
        go_wp2_with fail
        go_ret
        exact ⟨by rw [← HX.out]; rfl, rfl⟩
set_option maxRecDepth 100000 in
set_option maxHeartbeats 4000000 in
theorem wide_F1 (l : List UInt8) (i c : Nat) (w : World) (hi : i < l.length) (hs : l.length ≤ 1099511627776) (hx : ∀ w, (Instr.index 9 (.string ⟨l.toArray⟩) (.int .i64 (i : Int))).run Tryd.prog w = .ok (.int .u8 (c : Nat)) w) (h128 : 128 ≤ c) (hlt : c < 256) (hcc : 241 ≤ c ∧ c < 244) : Calls Tryd.prog 50 #[.string ⟨l.toArray⟩, .int .i64 (i : Nat)] w fun e w' => e = .returned (.int .i64 (wdG l i 4 128 191 : Nat)) ∧ w' = w := by
  have hsz := sz_mk l
  have d1 : decide ((c : Int) < 128) = false := decide_eq_false (by omega)
  have e1 : decide ((194 : Int) ≤ (c : Int)) = true := decide_eq_true (by omega)
  have e2 : decide ((c : Int) ≤ 223) = false := decide_eq_false (by omega)
  have e3 : decide ((224 : Int) ≤ (c : Int)) = true := decide_eq_true (by omega)
  have e4 : decide ((c : Int) ≤ 239) = false := decide_eq_false (by omega)
  have e5 : decide ((240 : Int) ≤ (c : Int)) = true := decide_eq_true (by omega)
  have e6 : decide ((c : Int) ≤ 244) = true := decide_eq_true (by omega)
  have g1 : ((c : Int) == 224) = false := by rw [beq_eq_false_iff_ne]; omega
  have g2 : ((c : Int) == 237) = false := by rw [beq_eq_false_iff_ne]; omega
  have g3 : ((c : Int) == 240) = false := by rw [beq_eq_false_iff_ne]; omega
  have g4 : ((c : Int) == 244) = false := by rw [beq_eq_false_iff_ne]; omega
  obtain ⟨R, hR⟩ : ∃ R, wdG l i 4 128 191 = R := ⟨_, rfl⟩
  rw [hR]
  unfold wdG at hR
  clear hcc h128 hlt
  by_cases hlen : l.length < i + 4
  · rw [if_pos hlen] at hR
    have hl1 : decide ((l.length : Int) < (i : Int) + 4) = true := decide_eq_true (by omega)
    replace hR : Hid _ := hR
    go_enter Tryd.func50, Tryd.ntmps50
    go_wp2_with fail
    go_ret
    exact ⟨by rw [← hR.out]; rfl, rfl⟩
  · rw [if_neg hlen] at hR
    have hl1 : decide ((l.length : Int) < (i : Int) + 4) = false := decide_eq_false (by omega)
    have hln : ¬ l.length < i + 4 := hlen
    replace hR : Hid _ := hR
    go_enter Tryd.func50, Tryd.ntmps50
    go_wp2_with fail
    go_loop [7, 8, 9] (fun lv hv kv => ∃ (k lw hg : Nat), kv = .int .i64 k ∧ lv = .int .u8 (lw : Nat) ∧ hv = .int .u8 (hg : Nat) ∧ 1 ≤ k ∧ k ≤ 5 ∧ Hid (lw = (if k = 1 then 128 else 128) ∧ hg = (if k = 1 then 191 else 191)) ∧ Hid (wA l i 4 128 191 1 = wA l i 4 128 191 k)) (fun _ _ kv => 5 - (intOf kv).toNat)
    case atStart => exact ⟨1, 128, 191, rfl, rfl, rfl, by omega, by omega, ⟨rfl, rfl⟩, rfl⟩
    case round =>
      obtain ⟨k, lw, hg, rfl, rfl, rfl, hk1, hk5, HL, HA⟩ := hrel
      by_cases hkn : k < 4
      · have hkc : decide ((k : Int) < 4) = true := decide_eq_true (by omega)
        have hxk : ∀ w, (Instr.index 9 (.string ⟨l.toArray⟩) (.int .i64 ((i : Int) + (k : Int)))).run Tryd.prog w = .ok (.int .u8 ((l.getD (i + k) 0).toNat : Nat)) w := fun w => run_ix l (i + k) (by omega) w
        have hst := wA_step l i 4 128 191 k hkn
        have hp : wP l i 128 191 k = (decide (lw ≤ (l.getD (i + k) 0).toNat) && decide ((l.getD (i + k) 0).toNat ≤ hg)) := by
          unfold wP; rw [HL.out.1, HL.out.2]
        rw [hp] at hst
        generalize (l.getD (i + k) 0).toNat = x at *
        by_cases h1 : lw ≤ x
        · have j1 : decide ((x : Int) < (lw : Int)) = false := decide_eq_false (by omega)
          by_cases h2 : x ≤ hg
          · have j2 : decide ((hg : Int) < (x : Int)) = false := decide_eq_false (by omega)
            have HA2 : Hid (wA l i 4 128 191 1 = wA l i 4 128 191 (k + 1)) := by
              unfold Hid; rw [HA.out, hst, decide_eq_true h1, decide_eq_true h2]; rfl
            have jn1 : ¬ x < lw := by omega
            have jn2 : ¬ hg < x := by omega
            have HK : Hid (k < 4 ∧ 1 ≤ k) := ⟨hkn, hk1⟩
            clear hst hp HA HL
            go_wp2_with fail
            go_round
            case rel => exact ⟨k + 1, 128, 191, by go_num, rfl, rfl, by omega, by have := HK.out; omega, by unfold Hid; have := HK.out; rw [if_neg (by omega), if_neg (by omega)]; exact ⟨rfl, rfl⟩, HA2⟩
            case measure => have := HK.out; simp [intOf]; omega
          · have j2 : decide ((hg : Int) < (x : Int)) = true := decide_eq_true (by omega)
            have HX : Hid (0 = R) := by
              unfold Hid; rw [← hR.out, HA.out, hst, decide_eq_false h2, Bool.and_false]; rfl
            have jn1 : ¬ x < lw := by omega
            have jn2 : hg < x := by omega
            clear hst hp HA HL
            go_wp2_with fail
            go_ret
            exact ⟨by rw [← HX.out]; rfl, rfl⟩
        · have j1 : decide ((x : Int) < (lw : Int)) = true := decide_eq_true (by omega)
          have jn1 : x < lw := by omega
          have HX : Hid (0 = R) := by
            unfold Hid; rw [← hR.out, HA.out, hst, decide_eq_false h1]; rfl
          clear hst hp HA HL
          go_wp2_with fail
          go_ret
          exact ⟨by rw [← HX.out]; rfl, rfl⟩
      · have hkc : decide ((k : Int) < 4) = false := decide_eq_false (by omega)
        have HX : Hid (4 = R) := by
          unfold Hid; rw [← hR.out, HA.out, wA_end l i 4 128 191 k (by omega)]; rfl
        go_wp2_with fail
        go_ret
        exact ⟨by rw [← HX.out]; rfl, rfl⟩
theorem wide_any (l : List UInt8) (i : Nat) (w : World) (hi : i < l.length) (hs : l.length ≤ 1099511627776) : Calls Tryd.prog 50 #[.string ⟨l.toArray⟩, .int .i64 (i : Nat)] w fun e w' => e = .returned (.int .i64 (wdF l i : Nat)) ∧ w' = w := by
  have hsz := sz_mk l
  have hx := run_ix l i hi
  obtain ⟨c, hc⟩ : ∃ c, (l.getD i 0).toNat = c := ⟨_, rfl⟩
  have hlt : c < 256 := by rw [← hc]; exact UInt8.toNat_lt _
  have HW : Hid (wdF l i = if c < 128 then 1 else wdG l i (wC c).1 (wC c).2.1 (wC c).2.2) := by unfold Hid wdF; rw [hc]
  rw [hc] at hx
  clear hc
  by_cases h128 : c < 128
  · rw [if_pos h128] at HW
    have d1 : decide ((c : Int) < 128) = true := decide_eq_true (by omega)
    go_enter Tryd.func50, Tryd.ntmps50
    go_wp2_with fail
    go_ret
    exact ⟨by rw [HW.out]; rfl, rfl⟩
  · rw [if_neg h128] at HW
    rw [HW.out]
    rcases wC_all c hlt (by omega) with ⟨e, hc⟩ | ⟨e, hc⟩ | ⟨e, hc⟩ | ⟨e, hc⟩ | ⟨e, hc⟩ | ⟨e, hc⟩ | ⟨e, hc⟩ | ⟨e, hc⟩ <;> rw [e]
    · rcases hc with hc | hc
      · exact wide_N1 l i c w hi hs hx (by omega) hlt hc
      · exact wide_N2 l i c w hi hs hx (by omega) hlt hc
    · exact wide_C2 l i c w hi hs hx (by omega) hlt hc
    · exact wide_E0 l i c w hi hs hx (by omega) hlt hc
    · exact wide_ED l i c w hi hs hx (by omega) hlt hc
    · exact wide_E1 l i c w hi hs hx (by omega) hlt hc
    · exact wide_F0 l i c w hi hs hx (by omega) hlt hc
    · exact wide_F4 l i c w hi hs hx (by omega) hlt hc
    · exact wide_F1 l i c w hi hs hx (by omega) hlt hc
end Go.Proofs.YtonfjmibnnioiaaDoor
