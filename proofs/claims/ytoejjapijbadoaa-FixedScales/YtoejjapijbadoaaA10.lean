import Derived.Test.YtoejjapijbadoaaA9
set_option linter.unusedVariables false
set_option linter.unusedSimpArgs false
namespace Go.Proofs.Ytoejjapijbadoaa
open Go.RowKit Lb
theorem Product_nv (v1 v2 : Value) (x y k : Nat) (w : World) (h : Nv w v1 x) (g : Nv w v2 y) (hx : x < 4294967296 ^ k) (hy : y < 4294967296 ^ k) (hk : k ≤ 1000) :
    Calls Try.prog 10 #[v1, v2] w fun e w' => ∃ v, e = .returned v ∧ Nv w' v (x * y) ∧ Keep w w' := by
  obtain ⟨a, c, l, rfl, h1, h2, h3, h4, h5, h6⟩ := h.few hx
  obtain ⟨b, d, m, rfl, g1, g2, g3, g4, g5, g6⟩ := g.few hy
  have := Product_any a b c d l m w (by omega) (by omega) h2 g2 h3 g3
  rw [h5, g5] at this
  exact this
theorem scE_ne (neg : Bool) (x y : Nat) (hy : 0 < y) (hb : y ≤ 9223372036854775808) (ok : Bool) (X : Int) (h1 : ok = true → X = sgV neg (rup x y) ∧ sgE neg (rup x y) = 0) (h2 : ok = false → sgV neg (rup x y) = 0 ∧ sgE neg (rup x y) = 41) (hr : rndB x y = true) :
    (ok = true ∧ scV neg x y = X ∧ scE neg x y = 0) ∨ (ok = false ∧ scV neg x y = 0 ∧ scE neg x y = 41) := by
  rw [rndB_eq hy hb, decide_eq_true_eq] at hr
  unfold scV scE
  rw [if_pos hr, if_pos hr]
  cases ok
  · exact .inr ⟨rfl, h2 rfl⟩
  · have := h1 rfl
    exact .inl ⟨rfl, this.1.symm, this.2⟩
set_option maxRecDepth 100000 in
set_option maxHeartbeats 1000000 in
theorem rScale_some (v num den : Int) (hv : I64 v) (hn : I64 num) (hd : I64 den) (h0 : den ≠ 0) (w : World) :
    Calls Try.prog 5 #[.int .i64 v, .int .i64 num, .int .i64 den] w fun e w' => e = .returned (.tuple #[.int .i64 (scV (ngB v num den) (v.natAbs * num.natAbs) den.natAbs), .int .i64 (scE (ngB v num den) (v.natAbs * num.natAbs) den.natAbs)]) ∧ Keep w w' := by
  have A1 := ramount_any v hv
  have A2 := ramount_any num hn
  have A3 := ramount_any den hd
  have b1 := amt_lt hv
  have b2 := amt_lt hn
  have b3 := amt_lt hd
  have hng : (!((!(decide (v < 0) == decide (num < 0))) == decide (den < 0))) = ngB v num den := rfl
  have hS := fun u hu wx => rsigned_any (ngB v num den) u hu wx
  have hpos : 0 < den.natAbs := by omega
  have hz : (den == 0) = false := by rw [beq_eq_false_iff_ne]; exact h0
  obtain ⟨k, hk⟩ : ∃ k : Nat, k = 2 := ⟨_, rfl⟩
  have hk2 : (18446744073709551616 : Nat) = 4294967296 ^ k := by rw [hk]
  have F1 := From_nv v.natAbs
  have F2 := From_nv num.natAbs
  have F3 := From_nv den.natAbs
  have hP := fun v1 v2 wx h g => Product_nv v1 v2 v.natAbs num.natAbs k wx h g (by omega) (by omega) (by omega)
  have hxy : v.natAbs * num.natAbs < 4294967296 ^ (k + k) := by
    rw [Nat.pow_add, ← hk2]
    exact Nat.mul_lt_mul_of_lt_of_le (by omega) (by omega) (by decide)
  have hR := fun v1 v2 wx h g => Rounded_nv v1 v2 (v.natAbs * num.natAbs) den.natAbs (k + k) wx h g hpos hxy (Nat.lt_of_lt_of_le (show den.natAbs < 4294967296 ^ k by omega) (Nat.pow_le_pow_right (by decide) (by omega))) (by omega)
  have hne := fun ok X h1 h2 hr => scE_ne (ngB v num den) (v.natAbs * num.natAbs) den.natAbs hpos b3 ok X h1 h2 hr
  have hfl : rndB (v.natAbs * num.natAbs) den.natAbs = false → scV (ngB v num den) (v.natAbs * num.natAbs) den.natAbs = 0 ∧ scE (ngB v num den) (v.natAbs * num.natAbs) den.natAbs = 41 := by
    intro h
    rw [rndB_eq hpos b3, decide_eq_false_iff_not] at h
    unfold scV scE
    rw [if_neg h, if_neg h]
    exact ⟨rfl, rfl⟩
  have hrup : rndB (v.natAbs * num.natAbs) den.natAbs = true → rup (v.natAbs * num.natAbs) den.natAbs < 18446744073709551616 := by
    intro h
    rw [rndB_eq hpos b3, decide_eq_true_eq] at h
    have := rup_le h
    omega
  clear hxy hk hk2
  generalize scV (ngB v num den) (v.natAbs * num.natAbs) den.natAbs = V at *
  generalize scE (ngB v num den) (v.natAbs * num.natAbs) den.natAbs = E at *
  generalize rup (v.natAbs * num.natAbs) den.natAbs = R at *
  generalize rndB (v.natAbs * num.natAbs) den.natAbs = B at *
  generalize ngB v num den = ng at *
  have F1' := fun wx => F1 wx (by omega)
  have F2' := fun wx => F2 wx (by omega)
  have F3' := fun wx => F3 wx (by omega)
  clear F1 F2 F3 b1 b2 b3 hpos hv hn hd
  generalize v.natAbs = a at *
  generalize num.natAbs = b at *
  generalize den.natAbs = D at *
  generalize a * b = N at *
  replace hne : Hid _ := hne
  go_enter Try.func5, Try.ntmps5
  go_wp2_with fail
  refine (A1 _).mono ?_
  rintro e wx ⟨rfl, rfl⟩
  go_wp2_with fail
  refine (F1' _).mono ?_
  rintro e w1 ⟨v1, rfl, n1, k1⟩
  go_wp2_with fail
  refine (A2 _).mono ?_
  rintro e wx ⟨rfl, rfl⟩
  go_wp2_with fail
  refine (F2' _).mono ?_
  rintro e w2 ⟨v2, rfl, n2, k2⟩
  go_wp2_with fail
  refine (hP v1 v2 _ (n1.keep k2) n2).mono ?_
  rintro e w3 ⟨v3, rfl, n3, k3⟩
  go_wp2_with fail
  refine (A3 _).mono ?_
  rintro e wx ⟨rfl, rfl⟩
  go_wp2_with fail
  refine (F3' _).mono ?_
  rintro e w4 ⟨v4, rfl, n4, k4⟩
  go_wp2_with fail
  refine (hR v3 v4 _ (n3.keep k4) n4).mono ?_
  rintro e w5 ⟨rfl, k5⟩
  have kk := (((k1.trans k2).trans k3).trans k4).trans k5
  cases B
  · obtain ⟨rfl, rfl⟩ := hfl rfl
    have hS0 := fun wx => hS 0 (by decide) wx
    go_wp2_with fail
    refine (hS0 _).mono ?_
    rintro e w6 ⟨x, ok, rfl, _, _, rfl⟩
    go_wp2_with fail
    go_ret2
    exact ⟨rfl, kk⟩
  · have hSR := fun wx => hS R (hrup rfl) wx
    clear hfl hrup
    go_wp2_with fail
    refine (hSR _).mono ?_
    rintro e w6 ⟨x, ok, rfl, g1, g2, rfl⟩
    rcases hne.out ok x g1 g2 (by simp) with ⟨rfl, rfl, rfl⟩ | ⟨rfl, rfl, rfl⟩
    · clear g1 g2 hS hSR hne
      go_wp2_with fail
      go_ret2
      exact ⟨rfl, kk⟩
    · clear g1 g2 hS hSR hne
      go_wp2_with fail
      go_ret2
      exact ⟨rfl, kk⟩
set_option maxHeartbeats 400000 in
theorem law_scales (v num den : Int) (w : World) (hv : I64 v) (hn : I64 num) (hd : I64 den) :
    Calls Try.prog 3 #[.int .i64 v, .int .i64 num, .int .i64 den] w fun e w' => e = .returned (.bool true) ∧ Keep w w' := by
  obtain ⟨V, E, h1, h2⟩ : ∃ V E : Int, (∀ wx, Calls Try.prog 4 #[.int .i64 v, .int .i64 num, .int .i64 den] wx fun e w' => e = .returned (.tuple #[.int .i64 V, .int .i64 E]) ∧ Keep wx w') ∧ (∀ wx, Calls Try.prog 5 #[.int .i64 v, .int .i64 num, .int .i64 den] wx fun e w' => e = .returned (.tuple #[.int .i64 V, .int .i64 E]) ∧ Keep wx w') := by
    by_cases h0 : den = 0
    · subst h0
      refine ⟨0, 2, fun wx => (Scale_zero v num wx).mono ?_, fun wx => (rScale_zero v num wx).mono ?_⟩
      · rintro e w' ⟨rfl, rfl⟩
        exact ⟨rfl, Keep.refl _⟩
      · rintro e w' ⟨rfl, rfl⟩
        exact ⟨rfl, Keep.refl _⟩
    · exact ⟨_, _, fun wx => Scale_some v num den hv hn hd h0 wx, fun wx => rScale_some v num den hv hn hd h0 wx⟩
  clear hv hn hd
  go_enter Try.func3, Try.ntmps3
  go_wp2_with fail
  refine (h1 _).mono ?_
  rintro e w1 ⟨rfl, k1⟩
  go_wp2_with fail
  refine (h2 _).mono ?_
  rintro e w2 ⟨rfl, k2⟩
  go_wp2_with fail
  go_ret
  exact ⟨rfl, k1.trans k2⟩
end Go.Proofs.Ytoejjapijbadoaa
