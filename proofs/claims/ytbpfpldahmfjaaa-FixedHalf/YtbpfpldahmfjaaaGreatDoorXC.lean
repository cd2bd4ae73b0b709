import Derived.Test.YtbpfpldahmfjaaaGreatDoorXB
set_option linter.unusedVariables false
set_option linter.unusedSimpArgs false
namespace Go.Proofs.YtbpfpldahmfjaaaGreatDoor.Li
open Go.RowKit Lb
set_option maxRecDepth 100000 in
set_option maxHeartbeats 800000 in
theorem half_zero (v num : Int) (w : World) (hB : Calls Tryz.prog 6 #[] w fun e w' => e = .returned (.bool true) ∧ Keep w w')
    (hS1 : ∀ wx, Calls Tryz.prog 12 #[.int .i64 v, .int .i64 1, .int .i64 1] wx fun e w' => e = .returned (.tuple #[.int .i64 v, .int .i64 0]) ∧ Keep wx w')
    (hS2 : ∀ wx, Calls Tryz.prog 12 #[.int .i64 v, .int .i64 num, .int .i64 0] wx fun e w' => e = .returned (.tuple #[.int .i64 0, .int .i64 2]) ∧ Keep wx w') :
    Calls Tryz.prog 5 #[.int .i64 v, .int .i64 num, .int .i64 0] w fun e w' => e = .returned (.bool true) ∧ Keep w w' := by
  have hvb : (v != v) = false := by simp
  go_enter Tryz.func5, Tryz.ntmps5
  go_wp2_with fail
  refine hB.mono ?_
  rintro e w1 ⟨rfl, k1⟩
  go_wp2_with fail
  refine (hS1 _).mono ?_
  rintro e w2 ⟨rfl, k2⟩
  go_wp2_with fail
  refine (hS2 _).mono ?_
  rintro e w3 ⟨rfl, k3⟩
  go_wp2_with fail
  go_ret
  exact ⟨rfl, (k1.trans k2).trans k3⟩
theorem scale_one (v : Int) (hv : Sc.I64 v) : Sc.scV (Sc.ngB v 1 1) (v.natAbs * (1 : Int).natAbs) (1 : Int).natAbs = v ∧ Sc.scE (Sc.ngB v 1 1) (v.natAbs * (1 : Int).natAbs) (1 : Int).natAbs = 0 := by
  have e1 : (1 : Int).natAbs = 1 := rfl
  unfold Sc.I64 at hv
  rw [e1, Nat.mul_one]
  have hr : Sc.rup v.natAbs 1 = v.natAbs := by unfold Sc.rup; simp [Nat.mod_one]
  have hn : Sc.ngB v 1 1 = decide (v < 0) := by unfold Sc.ngB; cases decide (v < 0) <;> rfl
  unfold Sc.scV Sc.scE
  rw [Nat.div_one, if_pos (by omega), if_pos (by omega), hr, hn]
  unfold Sc.sgV Sc.sgE
  by_cases h : v < 0
  · rw [decide_eq_true h]
    have q : (true = true ∧ v.natAbs ≤ 9223372036854775808) := ⟨rfl, by omega⟩
    rw [if_pos q, if_pos q]
    exact ⟨by omega, rfl⟩
  · rw [decide_eq_false h]
    have q1 : ¬ (false = true ∧ v.natAbs ≤ 9223372036854775808) := by simp
    have q2 : (false = false ∧ v.natAbs < 9223372036854775808) := ⟨rfl, by omega⟩
    rw [if_neg q1, if_pos q2, if_neg q1, if_pos q2]
    exact ⟨by omega, rfl⟩
/-- What is answered without an error. -/
theorem ok_V {N D R : Nat} {sg : Bool} {V : Int} (hR : Sc.rup N D = R) (hE : Sc.scE sg N D = 0) (hV : Sc.scV sg N D = V) : V.natAbs = R ∧ (V < 0 ↔ sg = true ∧ 0 < R) ∧ (-9223372036854775808 ≤ V ∧ V ≤ 9223372036854775807) := by
  unfold Sc.scE at hE
  unfold Sc.scV at hV
  by_cases h1 : N / D ≤ 9223372036854775808
  · rw [if_pos h1, hR] at hE hV
    unfold Sc.sgE at hE
    unfold Sc.sgV at hV
    by_cases q1 : sg = true ∧ R ≤ 9223372036854775808
    · rw [if_pos q1] at hV
      exact ⟨by omega, ⟨fun _ => ⟨q1.1, by omega⟩, fun h => by omega⟩, by omega⟩
    · rw [if_neg q1] at hV hE
      by_cases q2 : sg = false ∧ R < 9223372036854775808
      · rw [if_pos q2] at hV
        exact ⟨by omega, ⟨fun _ => by omega, fun h => by rw [q2.1] at h; cases h.1⟩, by omega⟩
      · rw [if_neg q2] at hE
        cases hE
  · rw [if_neg h1] at hE
    cases hE
theorem bad_V {N D : Nat} {sg : Bool} (hE : ¬ Sc.scE sg N D = 0) : Sc.scV sg N D = 0 ∧ Sc.scE sg N D = 41 := by
  unfold Sc.scE at hE ⊢
  unfold Sc.scV
  by_cases h1 : N / D ≤ 9223372036854775808
  · rw [if_pos h1] at hE ⊢
    rw [if_pos h1]
    generalize Sc.rup N D = R at *
    unfold Sc.sgE at hE ⊢
    unfold Sc.sgV
    by_cases q1 : sg = true ∧ R ≤ 9223372036854775808
    · rw [if_pos q1] at hE; exact absurd rfl hE
    · rw [if_neg q1] at hE ⊢
      rw [if_neg q1]
      by_cases q2 : sg = false ∧ R < 9223372036854775808
      · rw [if_pos q2] at hE; exact absurd rfl hE
      · rw [if_neg q2, if_neg q2]
        exact ⟨rfl, rfl⟩
  · rw [if_neg h1, if_neg h1]
    exact ⟨rfl, rfl⟩
theorem rup_zero {D : Nat} (hD : 0 < D) : Sc.rup 0 D = 0 := by
  unfold Sc.rup
  rw [Nat.zero_mod, Nat.zero_div, if_neg (by omega)]
theorem tmod_even (V : Int) : (V.tmod 2 == 0) = decide (V.natAbs % 2 = 0) := by
  by_cases h : V.natAbs % 2 = 0
  · rw [decide_eq_true h]
    have : V.tmod 2 = 0 := Int.tmod_eq_zero_of_dvd (by omega)
    rw [this]
    rfl
  · rw [decide_eq_false h]
    have : ¬ V.tmod 2 = 0 := by
      intro q
      have := Int.dvd_of_tmod_eq_zero q
      omega
    simpa using this
theorem law_half (v num den : Int) (w : World) (hB : Calls Tryz.prog 6 #[] w fun e w' => e = .returned (.bool true) ∧ Keep w w') (hv : Sc.I64 v) (hnum : Sc.I64 num) (hden : Sc.I64 den) :
    Calls Tryz.prog 5 #[.int .i64 v, .int .i64 num, .int .i64 den] w fun e w' => e = .returned (.bool true) ∧ Keep w w' := by
  have hS1 : ∀ wx, Calls Tryz.prog 12 #[.int .i64 v, .int .i64 1, .int .i64 1] wx fun e w' => e = .returned (.tuple #[.int .i64 v, .int .i64 0]) ∧ Keep wx w' := fun wx => by
    have q := Sc.Scale_some v 1 1 hv (by unfold Sc.I64; omega) (by unfold Sc.I64; omega) (by omega) wx
    rw [(scale_one v hv).1, (scale_one v hv).2] at q
    exact q
  by_cases h0 : den = 0
  · subst h0
    refine half_zero v num w hB hS1 fun wx => ?_
    refine (Sc.Scale_zero v num wx).mono ?_
    rintro e w' ⟨rfl, rfl⟩
    exact ⟨rfl, Keep.refl _⟩
  · obtain ⟨N, hN⟩ : ∃ N, v.natAbs * num.natAbs = N := ⟨_, rfl⟩
    obtain ⟨D, hD⟩ : ∃ D, den.natAbs = D := ⟨_, rfl⟩
    have hDp : 0 < D := by omega
    obtain ⟨sg, hsg⟩ : ∃ b, Sc.ngB v num den = b := ⟨_, rfl⟩
    have hS2 := fun wx => Sc.Scale_some v num den hv hnum hden h0 wx
    rw [hN, hD, hsg] at hS2
    obtain ⟨R, hR⟩ : ∃ R, Sc.rup N D = R := ⟨_, rfl⟩
    obtain ⟨sv, hsv⟩ : ∃ b, decide (v < 0) = b := ⟨_, rfl⟩
    obtain ⟨sn, hsn⟩ : ∃ b, decide (num < 0) = b := ⟨_, rfl⟩
    obtain ⟨sd, hsd⟩ : ∃ b, decide (den < 0) = b := ⟨_, rfl⟩
    have hsg2 : ((sv != sn) != sd) = sg := by rw [← hsg, ← hsv, ← hsn, ← hsd]; rfl
    obtain ⟨ps, hps⟩ : ∃ b, RS (sv != sn) N 1 = b := ⟨_, rfl⟩
    obtain ⟨qs, hqs⟩ : ∃ b, RS (ps != sd) N D = b := ⟨_, rfl⟩
    have hq : (N = 0 ∧ qs = false) ∨ (0 < N ∧ qs = sg) := by
      unfold RS at hps hqs
      by_cases n0 : N = 0
      · left
        rw [if_pos (.inr n0)] at hqs
        exact ⟨n0, hqs.symm⟩
      · right
        rw [if_neg (by omega)] at hps hqs
        exact ⟨by omega, by rw [← hqs, ← hps, hsg2]⟩
    obtain ⟨qn, hqn⟩ : ∃ x, RN N D = x := ⟨_, rfl⟩
    obtain ⟨qd, hqd⟩ : ∃ x, RD N D = x := ⟨_, rfl⟩
    have hqdp : 0 < qd := by rw [← hqd]; exact RD_pos2 hDp
    by_cases hE : Sc.scE sg N D = 0
    · obtain ⟨V, hV⟩ : ∃ x, Sc.scV sg N D = x := ⟨_, rfl⟩
      rw [hE, hV] at hS2
      obtain ⟨v1, v2, v3⟩ := ok_V hR hE hV
      obtain ⟨vs, hvs⟩ : ∃ b, decide (V < 0) = b := ⟨_, rfl⟩
      obtain ⟨A, hA⟩ : ∃ x, PN qs (!vs) qn (R * qd) = x := ⟨_, rfl⟩
      have hvs2 : qs = vs ∨ R = 0 := by
        by_cases r0 : R = 0
        · exact .inr r0
        · left
          rcases hq with ⟨n0, -⟩ | ⟨-, q⟩
          · rw [n0, rup_zero hDp] at hR; omega
          · rw [q, ← hvs]
            cases sg with
            | true => rw [decide_eq_true (v2.2 ⟨rfl, by omega⟩)]
            | false => rw [decide_eq_false (fun h => by have := v2.1 h; cases this.1)]
      have hm := ok_C hqdp (ok_math hDp hqn hqd hR hvs2 hA)
      obtain ⟨C, hC⟩ : ∃ x, ordV (false && !decide (RN A qd = 0)) (false && !decide (1 = 0)) (RN A qd * 2) (1 * RD A qd) = x := ⟨_, rfl⟩
      rw [hC] at hm
      refine half_ok v num den w hB hv hnum hden h0 V 0 v3 hS1 hS2 N D hN hD sv sn sd ps qs hsv hsn hsd hps qn qd hqs hqn hqd R v1 vs hvs A hA C hC _ _ _ rfl rfl (tmod_even V) ?_
      rw [v1]
      rcases hm with h | ⟨h, r⟩
      · rw [decide_eq_true h]; rfl
      · rw [h, decide_eq_true r]; rfl
    · obtain ⟨b1, b2⟩ := bad_V hE
      rw [b1, b2] at hS2
      have hN0 : 0 < N := by
        rcases Nat.eq_zero_or_pos N with n0 | n0
        · exfalso
          apply hE
          unfold Sc.scE
          rw [n0, Nat.zero_div, if_pos (by omega), rup_zero hDp]
          unfold Sc.sgE
          cases sg <;> simp
        · exact n0
      have hqs2 : qs = sg := by
        rcases hq with ⟨n0, -⟩ | ⟨-, q⟩
        · omega
        · exact q
      have hm := bad_C hDp hqn hqd hN0 hqs2 (bad_math hDp hR hE)
      refine half_bad v num den w hB hv hnum hden h0 0 0 (by omega) hS1 hS2 N D hN hD sv sn sd ps qs hsv hsn hsd hps qn qd hqs hqn hqd _ _ rfl rfl _ _ rfl rfl ?_
      rcases hm with h | h
      · rw [decide_eq_true h]; rfl
      · rw [decide_eq_true h]; simp
end Go.Proofs.YtbpfpldahmfjaaaGreatDoor.Li
