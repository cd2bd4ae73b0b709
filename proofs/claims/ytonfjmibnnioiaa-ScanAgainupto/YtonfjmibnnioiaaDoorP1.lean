import Derived.Test.YtonfjmibnnioiaaDoorZ6
set_option linter.unusedVariables false
set_option linter.unusedSimpArgs false
namespace Go.Proofs.YtonfjmibnnioiaaDoor
open Go.RowKit Go.Shelf
/-- Is a text a name? -/
def nmB (l : List UInt8) : Bool := decide (1 ≤ l.length) && decide (l.length ≤ 64) && l.all fun c => inNm (kd c)
theorem rn_all : ∀ l : List UInt8, (l.all fun c => inNm (kd c)) = decide (rnF inNm l = l.length)
  | [] => rfl
  | c :: l => by
    have ih := rn_all l
    have hle := rnF_le inNm l
    unfold rnF at ih hle ⊢
    rw [List.all_cons, List.takeWhile_cons]
    cases inNm (kd c) with
    | true => simp only [Bool.true_and, if_true, List.length_cons]; rw [ih, decide_eq_decide]; omega
    | false => simp
theorem mk_empty (l : List UInt8) (h : 1 ≤ l.length) : l.isEmpty = false := by
  cases l with
  | nil => simp at h
  | cons _ _ => rfl
set_option maxRecDepth 100000 in
theorem Name_any (l : List UInt8) (w : World) (hT : Kt w) (hs : l.length ≤ 1099511627776) : Calls Tryd.prog 24 #[.string ⟨l.toArray⟩] w fun e w' => e = .returned (.bool (nmB l)) ∧ w' = w := by
  have hsz := sz_mk l
  have HN : Hid (nmB l = (decide (1 ≤ l.length) && decide (l.length ≤ 64) && decide (rnF inNm l = l.length))) := by unfold Hid nmB; rw [rn_all]
  have hR := runName_any l w hT (by omega)
  by_cases h0 : 1 ≤ l.length
  · have he := mk_empty l h0
    by_cases h1 : l.length ≤ 64
    · have h1c : decide ((l.length : Int) ≤ 64) = true := decide_eq_true (by omega)
      have HE : Hid (((rnF inNm l : Int) == (l.length : Int)) = decide (rnF inNm l = l.length)) := by unfold Hid; rw [Bool.eq_iff_iff]; simp only [beq_iff_eq, decide_eq_true_eq]; omega
      rw [decide_eq_true h0, decide_eq_true h1] at HN
      clear h0
      generalize rnF inNm l = m at *
      go_enter Tryd.func24, Tryd.ntmps24
      go_wp2_with (go_at_call 47; refine hR.mono ?_; rintro e w0 ⟨rfl, hw0⟩; rw [hw0]; clear hw0)
      go_ret
      refine ⟨?_, rfl⟩
      rw [HN.out, ← HE.out]; rfl
    · have h1c : decide ((l.length : Int) ≤ 64) = false := decide_eq_false (by omega)
      rw [decide_eq_false h1] at HN
      clear h0
      go_enter Tryd.func24, Tryd.ntmps24
      go_wp2_with fail
      go_ret
      exact ⟨by rw [HN.out, Bool.and_false, Bool.false_and]; rfl, rfl⟩
  · have hl : l = [] := List.eq_nil_of_length_eq_zero (by omega)
    subst hl
    have HF : Hid (nmB [] = false) := rfl
    clear HN hR hsz
    go_enter Tryd.func24, Tryd.ntmps24
    go_wp2_with fail
    go_ret
    exact ⟨by rw [HF.out]; rfl, rfl⟩
set_option maxRecDepth 100000 in
set_option maxHeartbeats 2000000 in
theorem rName_any (l : List UInt8) (w : World) (hs : l.length ≤ 1099511627776) : Calls Tryd.prog 25 #[.string ⟨l.toArray⟩] w fun e w' => e = .returned (.bool (nmB l)) ∧ w' = w := by
  have hsz := sz_mk l
  go_enter Tryd.func25, Tryd.ntmps25
  go_wp2_with fail
  go_loop [3] (fun n => ∃ k : Nat, n = .int .i64 (k : Int) ∧ k ≤ l.length ∧ Hid ((l.all fun c => inNm (kd c)) = ((l.drop k).all fun c => inNm (kd c)))) (fun n => l.length - (intOf n).toNat)
  case atStart => exact ⟨0, rfl, by omega, rfl⟩
  case round =>
    obtain ⟨k, rfl, hk, H⟩ := hrel
    by_cases hlt : k < l.length
    · have hltc : decide ((k : Int) < (l.length : Int)) = true := decide_eq_true (by omega)
      have hx := run_ix l k hlt
      have HK : Hid (k < l.length) := hlt
      have hC := H.out
      rw [drop_cons l k hlt, List.all_cons] at hC
      obtain ⟨x, hx0⟩ : ∃ x, l.getD k 0 = x := ⟨_, rfl⟩
      rw [hx0] at hx hC
      obtain ⟨_, _, _, _, _, _, _, qn, _⟩ := tests_of x
      have hLe := fun wx => rletter_any x wx
      have hDi := fun wx => rdigit_any x wx
      obtain ⟨b1, hb1⟩ : ∃ b, leB x = b := ⟨_, rfl⟩
      obtain ⟨b2, hb2⟩ : ∃ b, diB x = b := ⟨_, rfl⟩
      obtain ⟨b3, hb3⟩ : ∃ b, decide (x = 95) = b := ⟨_, rfl⟩
      obtain ⟨b4, hb4⟩ : ∃ b, decide (x = 45) = b := ⟨_, rfl⟩
      obtain ⟨b5, hb5⟩ : ∃ b, decide (x = 46) = b := ⟨_, rfl⟩
      have f95 : ((x.toNat : Int) != 95) = !b3 := by rw [← hb3, bne, ← ub_eq x 95]; rfl
      have f45 : ((x.toNat : Int) != 45) = !b4 := by rw [← hb4, bne, ← ub_eq x 45]; rfl
      have f46 : ((x.toNat : Int) != 46) = !b5 := by rw [← hb5, bne, ← ub_eq x 46]; rfl
      rw [hb1, hb2, hb3, hb4, hb5] at qn
      rw [hb1] at hLe
      rw [hb2] at hDi
      rw [qn] at hC
      have HF : Hid ((l.all fun c => inNm (kd c)) = false → nmB l = false) := fun h => by unfold nmB; rw [h, Bool.and_false]
      replace hC : Hid _ := hC
      clear qn hb1 hb2 hb3 hb4 hb5 hx0 H
      generalize x.toNat = nx at *
      cases b1 with
      | true =>
        have hC : Hid _ := hC.out
        go_wp2_with (first | (go_at_call 35; refine (hLe _).mono ?_; rintro e w0 ⟨rfl, hw0⟩; rw [hw0]; clear hw0) | (go_at_call 36; refine (hDi _).mono ?_; rintro e w0 ⟨rfl, hw0⟩; rw [hw0]; clear hw0))
        go_round
        case rel => exact ⟨k + 1, by go_num, by have := HK.out; omega, by unfold Hid; rw [hC.out]; rfl⟩
        case measure => have := HK.out; simp [intOf]; omega
      | false =>
        cases b2 with
        | true =>
          have hC : Hid _ := hC.out
          go_wp2_with (first | (go_at_call 35; refine (hLe _).mono ?_; rintro e w0 ⟨rfl, hw0⟩; rw [hw0]; clear hw0) | (go_at_call 36; refine (hDi _).mono ?_; rintro e w0 ⟨rfl, hw0⟩; rw [hw0]; clear hw0))
          go_round
          case rel => exact ⟨k + 1, by go_num, by have := HK.out; omega, by unfold Hid; rw [hC.out]; rfl⟩
          case measure => have := HK.out; simp [intOf]; omega
        | false =>
          cases b3 with
          | true =>
            have hC : Hid _ := hC.out
            go_wp2_with (first | (go_at_call 35; refine (hLe _).mono ?_; rintro e w0 ⟨rfl, hw0⟩; rw [hw0]; clear hw0) | (go_at_call 36; refine (hDi _).mono ?_; rintro e w0 ⟨rfl, hw0⟩; rw [hw0]; clear hw0))
            go_round
            case rel => exact ⟨k + 1, by go_num, by have := HK.out; omega, by unfold Hid; rw [hC.out]; rfl⟩
            case measure => have := HK.out; simp [intOf]; omega
          | false =>
            cases b4 with
            | true =>
              have hC : Hid _ := hC.out
              go_wp2_with (first | (go_at_call 35; refine (hLe _).mono ?_; rintro e w0 ⟨rfl, hw0⟩; rw [hw0]; clear hw0) | (go_at_call 36; refine (hDi _).mono ?_; rintro e w0 ⟨rfl, hw0⟩; rw [hw0]; clear hw0))
              go_round
              case rel => exact ⟨k + 1, by go_num, by have := HK.out; omega, by unfold Hid; rw [hC.out]; rfl⟩
              case measure => have := HK.out; simp [intOf]; omega
            | false =>
              cases b5 with
              | true =>
                have hC : Hid _ := hC.out
                go_wp2_with (first | (go_at_call 35; refine (hLe _).mono ?_; rintro e w0 ⟨rfl, hw0⟩; rw [hw0]; clear hw0) | (go_at_call 36; refine (hDi _).mono ?_; rintro e w0 ⟨rfl, hw0⟩; rw [hw0]; clear hw0))
                go_round
                case rel => exact ⟨k + 1, by go_num, by have := HK.out; omega, by unfold Hid; rw [hC.out]; rfl⟩
                case measure => have := HK.out; simp [intOf]; omega
              | false =>
                have hN := HF.out (by rw [hC.out]; rfl)
                replace hN : Hid _ := hN
                go_wp2_with (first | (go_at_call 35; refine (hLe _).mono ?_; rintro e w0 ⟨rfl, hw0⟩; rw [hw0]; clear hw0) | (go_at_call 36; refine (hDi _).mono ?_; rintro e w0 ⟨rfl, hw0⟩; rw [hw0]; clear hw0))
                go_ret
                exact ⟨by rw [hN.out]; rfl, rfl⟩
    · have hltc : ¬ (k : Int) < (l.length : Int) := by omega
      obtain rfl : k = l.length := by omega
      have HA : Hid (nmB l = (decide (1 ≤ l.length) && decide (l.length ≤ 64))) := by unfold Hid nmB; rw [H.out, List.drop_length, List.all_nil, Bool.and_true]
      have g1 : decide ((1 : Int) ≤ (l.length : Int)) = decide (1 ≤ l.length) := by rw [decide_eq_decide]; omega
      have g2 : decide ((l.length : Int) ≤ 64) = decide (l.length ≤ 64) := by rw [decide_eq_decide]; omega
      by_cases h1 : 1 ≤ l.length
      · by_cases h2 : l.length ≤ 64
        · rw [decide_eq_true h1, decide_eq_true h2] at HA
          rw [decide_eq_true h1] at g1
          rw [decide_eq_true h2] at g2
          go_wp2_with fail
          go_ret
          exact ⟨by rw [HA.out]; rfl, rfl⟩
        · rw [decide_eq_true h1, decide_eq_false h2] at HA
          rw [decide_eq_true h1] at g1
          rw [decide_eq_false h2] at g2
          go_wp2_with fail
          go_ret
          exact ⟨by rw [HA.out]; rfl, rfl⟩
      · rw [decide_eq_false h1] at HA
        rw [decide_eq_false h1] at g1
        go_wp2_with fail
        go_ret
        exact ⟨by rw [HA.out]; rfl, rfl⟩
end Go.Proofs.YtonfjmibnnioiaaDoor
