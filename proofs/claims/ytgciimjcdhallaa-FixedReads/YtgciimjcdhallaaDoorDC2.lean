import Derived.Test.YtgciimjcdhallaaDoorSP2
import Derived.Test.YtgciimjcdhallaaDoorS9
import Derived.Test.YtgciimjcdhallaaDoorS8
import Derived.Test.YtgciimjcdhallaaDoorS7
import Derived.Test.YtgciimjcdhallaaDoorS6
set_option linter.unusedVariables false
set_option linter.unusedSimpArgs false
namespace Go.Proofs.YtgciimjcdhallaaDoor
open Go.RowKit Go.Shelf
theorem Split_good (s : List UInt8) (hs : s.length ≤ 4096) (hin : pK1 s < s.length → (s.getD (pK1 s) 0).toNat ≠ 105 ∧ (s.getD (pK1 s) 0).toNat ≠ 110) (hhx : pK1 s + 1 < s.length → (s.getD (pK1 s) 0).toNat = 48 → (s.getD (pK1 s + 1) 0).toNat ≠ 120) (hg : oGood s) (wx : World) :
    Calls Tryd.prog 15 #[.string ⟨s.toArray⟩] wx fun e w' => e = .returned (.tuple #[.agg (txt false false false 0 0 false (pNg s) false (pWh s) (oPt s) (pwY s)), .int .i64 (-1)]) ∧ Keep wx w' := by
  refine (Split_any s wx hs hin hhx).mono ?_
  rintro e w' ⟨⟨T, V, rfl, h1, h2, h3⟩, k⟩
  rw [h1, h2 hg]
  exact ⟨rfl, k⟩
theorem Split_bad (s : List UInt8) (hs : s.length ≤ 4096) (hin : pK1 s < s.length → (s.getD (pK1 s) 0).toNat ≠ 105 ∧ (s.getD (pK1 s) 0).toNat ≠ 110) (hhx : pK1 s + 1 < s.length → (s.getD (pK1 s) 0).toNat = 48 → (s.getD (pK1 s + 1) 0).toNat ≠ 120) (hg : ¬ oGood s) (wx : World) :
    Calls Tryd.prog 15 #[.string ⟨s.toArray⟩] wx fun e w' => e = .returned (.tuple #[.agg (txt false false false 0 0 false (pNg s) false (pWh s) (oPt s) (pwY s)), .int .i64 (oEnd s : Int)]) ∧ Keep wx w' := by
  refine (Split_any s wx hs hin hhx).mono ?_
  rintro e w' ⟨⟨T, V, rfl, h1, h2, h3⟩, k⟩
  rw [h1, h3 hg]
  exact ⟨rfl, k⟩
theorem tk_drop (s ts : List UInt8) (m : Nat) : tk (s.drop m) ts 0 = tk s ts m := by
  unfold tk
  have e : (s.drop m).getD 0 0 = s.getD m 0 := by simp [List.getD, List.getElem?_drop]
  rw [e, List.length_drop]
  by_cases q : m < s.length
  · simp [q, show 0 < s.length - m by omega]
  · simp [q, show ¬ 0 < s.length - m by omega]
theorem drop_at {s : List UInt8} {m : Nat} (h : m < s.length) : s.drop m = s.getD m 0 :: s.drop (m + 1) := by
  rw [List.drop_eq_getElem_cons h]
  simp [List.getD, List.getElem?_eq_getElem h]
/-- The reference's power, and how it lies to the program's. -/
theorem power_of (s : List UInt8) (hs : s.length ≤ 4096) (hg : oGood s) :
    ∃ PW : Int, (∀ wx, Calls Tryd.prog 17 #[.string ⟨(pwY s).toArray⟩] wx fun e w' => e = .returned (.int .i64 PW) ∧ wx = w') ∧ (-100000 ≤ PW ∧ PW ≤ 100000) ∧ (PW = qP s (oK s) ∨ (PW = 100000 ∧ 100000 ≤ qP s (oK s)) ∨ (PW = -100000 ∧ qP s (oK s) ≤ -100000)) := by
  rw [pwY_yes hg.1]
  have hp := (Bool.and_eq_true_iff.1 hg.1).1
  cases hq : qE s (oK s) with
  | false =>
    have e : pwX s = [] := by unfold pwX; rw [hq]; rfl
    have e2 : qP s (oK s) = 0 := (o_plain hp hq).2.2
    refine ⟨0, fun wx => ?_, by omega, .inl e2.symm⟩
    rw [e]
    exact rPower_any [] wx (by simp) false rfl 0 rfl
  | true =>
    obtain ⟨f1, f2⟩ := o_power hp hq
    have f3 : oEnd s = s.length := hg.2
    obtain ⟨k, hk⟩ : ∃ k, oK s = k := ⟨_, rfl⟩
    rw [hk] at hq f1 f2 ⊢
    have hkl : k < s.length := (of_decide_eq_true hq).1
    have e : pwX s = s.drop (k + 1) := by unfold pwX; rw [hk, hq, f3, List.take_length]; rfl
    have hds : s.drop (qK2 s k) = qDs s k := by
      have a := dg_cut s (qK2 s k)
      have b : dg s (qK2 s k) s.length = qDs s k := rfl
      rw [b, ← f1, f3, List.take_length] at a
      exact a
    have hD : allD (qDs s k) := (allD.while _).take _
    have hng : tk (pwX s) [45] 0 = qNg s k := by rw [e, tk_drop]; rfl
    have hl : (pwX s).length ≤ 4096 := by rw [e, List.length_drop]; omega
    have hN : min (pwF (pwX s)) 100000 = min (nat (qDs s k)) 100000 := by
      rw [e]
      cases h1 : qNg s k with
      | true =>
        have e2 : qK2 s k = k + 1 + 1 := by unfold qK2; rw [h1]; rfl
        obtain ⟨a, b⟩ := of_decide_eq_true h1
        have b2 : s.getD (k + 1) 0 = 45 := by simpa using b
        rw [drop_at a, b2, pwF_sign (by decide), ← e2, hds]
        exact pwF_digits hD
      | false =>
        cases h2 : qPl s k with
        | true =>
          have e2 : qK2 s k = k + 1 + 1 := by unfold qK2; rw [h1, h2]; rfl
          obtain ⟨a, b⟩ := of_decide_eq_true h2
          have b2 : s.getD (k + 1) 0 = 43 := by simpa using b
          rw [drop_at a, b2, pwF_sign (by decide), ← e2, hds]
          exact pwF_digits hD
        | false =>
          have e2 : qK2 s k = k + 1 := by unfold qK2; rw [h1, h2]; rfl
          rw [← e2, hds]
          exact pwF_digits hD
    refine ⟨_, fun wx => rPower_any (pwX s) wx hl (qNg s k) hng _ hN, ?_, ?_⟩
    · have : min (nat (qDs s k)) 100000 ≤ 100000 := Nat.min_le_right _ _
      split <;> omega
    · have hfar : far = 1048576 := rfl
      unfold qP
      rw [hq, hfar]
      simp only [if_true]
      split <;> omega
theorem sgV_zero (b : Bool) : sgV b 0 = 0 := by cases b <;> rfl
theorem sgE_zero (b : Bool) : sgE b 0 = 0 := by cases b <;> rfl
theorem sg_huge (b : Bool) {n : Nat} (h : 10000000000000000000 ≤ n) : sgV b n = 0 ∧ sgE b n = 41 := by
  unfold sgV sgE
  rw [if_neg (by omega), if_neg (by omega), if_neg (by omega), if_neg (by omega)]
  exact ⟨rfl, rfl⟩
/-- What Decimal says of each way is what the program says. -/
theorem fin1 {s : List UInt8} (h : nat (pWh s ++ oPt s) = 0) : oN s = 0 := by unfold oN; rw [h]; exact mv_zero _
theorem fin2 {s : List UInt8} (hg : oGood s) {PW p : Int} (hb : -100000 ≤ PW ∧ PW ≤ 100000) (hR : PW = qP s (oK s) ∨ (PW = 100000 ∧ 100000 ≤ qP s (oK s)) ∨ (PW = -100000 ∧ qP s (oK s) ≤ -100000)) (hl : (pWh s).length + (oPt s).length ≤ 4096) (hp : PW - (oPt s).length + 6 = p) (h0 : 0 < nat (pWh s ++ oPt s)) (h30 : 30 < p) : 10000000000000000000 ≤ oN s := by
  unfold oN
  apply mv_huge h0
  omega
theorem fin3 {s : List UInt8} (hg : oGood s) {PW p : Int} (hb : -100000 ≤ PW ∧ PW ≤ 100000) (hR : PW = qP s (oK s) ∨ (PW = 100000 ∧ 100000 ≤ qP s (oK s)) ∨ (PW = -100000 ∧ qP s (oK s) ≤ -100000)) (hl : (pWh s).length + (oPt s).length ≤ 4096) (hp : PW - (oPt s).length + 6 = p) (h3 : p < -(((pWh s).length : Int) + (oPt s).length) - 3) : oN s = 0 := by
  unfold oN
  apply mv_far ((pWh_d s).app (show allD (oPt s) from pPt_d _ s))
  rw [List.length_append]
  omega
theorem fin5 {s : List UInt8} (hg : oGood s) {PW p : Int} (hR : PW = qP s (oK s) ∨ (PW = 100000 ∧ 100000 ≤ qP s (oK s)) ∨ (PW = -100000 ∧ qP s (oK s) ≤ -100000)) (hl : (pWh s).length + (oPt s).length ≤ 4096) (hp : PW - (oPt s).length + 6 = p) {k : Nat} (hk : p = (k : Int)) (h30 : k ≤ 30) : oN s = nat (pWh s ++ oPt s) * 10 ^ k := by
  unfold oN
  apply mv_pos
  omega
theorem fin4 {s : List UInt8} (hg : oGood s) {PW p : Int} (hR : PW = qP s (oK s) ∨ (PW = 100000 ∧ 100000 ≤ qP s (oK s)) ∨ (PW = -100000 ∧ qP s (oK s) ≤ -100000)) (hl : (pWh s).length + (oPt s).length ≤ 4096) (hp : PW - (oPt s).length + 6 = p) {k : Nat} (hk : p = -(k : Int)) (hk0 : 0 < k) (h3 : k ≤ (pWh s).length + (oPt s).length + 3) : oN s = rup (nat (pWh s ++ oPt s)) (10 ^ k) := by
  unfold oN
  apply mv_neg _ hk0
  omega
end Go.Proofs.YtgciimjcdhallaaDoor
set_option linter.unusedVariables false
set_option linter.unusedSimpArgs false
namespace Go.Proofs.YtgciimjcdhallaaDoor
open Go.RowKit Go.Shelf
theorem dec_A_true (s : List UInt8) (w : World) (hs : s.length ≤ 4096) (hng : pNg s = true) (hK : s.length = 2) (c : Nat) (hc : (s.getD 1 0).toNat = c) (hi : c ≠ 105) (hn : c ≠ 110) :
    Calls Tryd.prog 7 #[.string ⟨s.toArray⟩] w fun e w' => (∃ V E K, e = .returned (.tuple #[.int .i64 V, .int .i64 E, .int .i64 K]) ∧ RoA s V E K) ∧ Keep w w' := by
  have hk1 : pK1 s = 1 := by unfold pK1; rw [hng]; rfl
  have hin : pK1 s < s.length → (s.getD (pK1 s) 0).toNat ≠ 105 ∧ (s.getD (pK1 s) 0).toNat ≠ 110 := by rw [hk1, hc]; exact fun _ => ⟨hi, hn⟩
  have hhx : pK1 s + 1 < s.length → (s.getD (pK1 s) 0).toNat = 48 → (s.getD (pK1 s + 1) 0).toNat ≠ 120 := by rw [hk1]; intro a; omega
  by_cases hg : oGood s
  · have hSp := Split_good s hs hin hhx hg
    obtain ⟨PW, hPw, hb, hR⟩ := power_of s hs hg
    have hl : (pWh s).length + (oPt s).length ≤ 4096 := Nat.le_trans (pK3_le s.length s).2 hs
    have hpd : allD (oPt s) := pPt_d s.length s
    obtain ⟨p, hp⟩ : ∃ p, PW - (oPt s).length + 6 = p := ⟨_, rfl⟩
    by_cases h0 : nat (pWh s ++ oPt s) = 0
    · refine (rDec_G1_A_true s w hs hng hK c hc hi hn _ _ _ _ _ _ _ _ _ _ _ hSp (pWh_d s) hpd hl PW hPw hb _ rfl p hp h0).mono ?_
      rintro e w' ⟨rfl, k⟩
      exact ⟨⟨_, _, _, rfl, RoA.of_good hg (by rw [fin1 h0, sgV_zero]) (by rw [fin1 h0, sgE_zero])⟩, k⟩
    · have h1 : 0 < nat (pWh s ++ oPt s) := by omega
      by_cases h30 : 30 < p
      · have hf := sg_huge (pNg s) (fin2 hg hb hR hl hp h1 h30)
        refine (rDec_G2_A_true s w hs hng hK c hc hi hn _ _ _ _ _ _ _ _ _ _ _ hSp (pWh_d s) hpd hl PW hPw hb _ rfl p hp h1 h30).mono ?_
        rintro e w' ⟨rfl, k⟩
        exact ⟨⟨_, _, _, rfl, RoA.of_good hg hf.1.symm hf.2.symm⟩, k⟩
      · by_cases h3 : p < -(((pWh s).length : Int) + (oPt s).length) - 3
        · have hf := fin3 hg hb hR hl hp h3
          refine (rDec_G3_A_true s w hs hng hK c hc hi hn _ _ _ _ _ _ _ _ _ _ _ hSp (pWh_d s) hpd hl PW hPw hb _ rfl p hp h1 h3).mono ?_
          rintro e w' ⟨rfl, k⟩
          exact ⟨⟨_, _, _, rfl, RoA.of_good hg (by rw [hf, sgV_zero]) (by rw [hf, sgE_zero])⟩, k⟩
        · by_cases h4 : p < 0
          · obtain ⟨kk, hkk⟩ : ∃ kk : Nat, p = -(kk : Int) := ⟨(-p).toNat, by omega⟩
            have hf := fin4 hg hR hl hp hkk (by omega) (by omega)
            refine (rDec_G4_A_true s w hs hng hK c hc hi hn _ _ _ _ _ _ _ _ _ _ _ hSp (pWh_d s) hpd hl PW hPw hb _ rfl p hp h1 kk hkk (by omega) (by omega)).mono ?_
            rintro e w' ⟨rfl, k⟩
            exact ⟨⟨_, _, _, rfl, RoA.of_good hg (by rw [hf]) (by rw [hf])⟩, k⟩
          · obtain ⟨kk, hkk⟩ : ∃ kk : Nat, p = (kk : Int) := ⟨p.toNat, by omega⟩
            have hf := fin5 hg hR hl hp hkk (by omega)
            refine (rDec_G5_A_true s w hs hng hK c hc hi hn _ _ _ _ _ _ _ _ _ _ _ hSp (pWh_d s) hpd hl PW hPw hb _ rfl p hp h1 kk hkk (by omega)).mono ?_
            rintro e w' ⟨rfl, k⟩
            exact ⟨⟨_, _, _, rfl, RoA.of_good hg (by rw [hf]) (by rw [hf])⟩, k⟩
  · have hSp := Split_bad s hs hin hhx hg
    refine (rDec_bad_A_true s w hs hng hK c hc hi hn _ _ _ _ _ _ _ _ _ _ _ (oEnd s) hSp).mono ?_
    rintro e w' ⟨rfl, k⟩
    exact ⟨⟨_, _, _, rfl, RoA.of_bad hg rfl⟩, k⟩
theorem dec_B_true (s : List UInt8) (w : World) (hs : s.length ≤ 4096) (hng : pNg s = true) (hK : 2 < s.length) (c : Nat) (hc : (s.getD 1 0).toNat = c) (hi : c ≠ 105) (hn : c ≠ 110) (hz : c ≠ 48) :
    Calls Tryd.prog 7 #[.string ⟨s.toArray⟩] w fun e w' => (∃ V E K, e = .returned (.tuple #[.int .i64 V, .int .i64 E, .int .i64 K]) ∧ RoA s V E K) ∧ Keep w w' := by
  have hk1 : pK1 s = 1 := by unfold pK1; rw [hng]; rfl
  have hin : pK1 s < s.length → (s.getD (pK1 s) 0).toNat ≠ 105 ∧ (s.getD (pK1 s) 0).toNat ≠ 110 := by rw [hk1, hc]; exact fun _ => ⟨hi, hn⟩
  have hhx : pK1 s + 1 < s.length → (s.getD (pK1 s) 0).toNat = 48 → (s.getD (pK1 s + 1) 0).toNat ≠ 120 := by rw [hk1, hc]; intro _ a; exact absurd a hz
  by_cases hg : oGood s
  · have hSp := Split_good s hs hin hhx hg
    obtain ⟨PW, hPw, hb, hR⟩ := power_of s hs hg
    have hl : (pWh s).length + (oPt s).length ≤ 4096 := Nat.le_trans (pK3_le s.length s).2 hs
    have hpd : allD (oPt s) := pPt_d s.length s
    obtain ⟨p, hp⟩ : ∃ p, PW - (oPt s).length + 6 = p := ⟨_, rfl⟩
    by_cases h0 : nat (pWh s ++ oPt s) = 0
    · refine (rDec_G1_B_true s w hs hng hK c hc hi hn hz _ _ _ _ _ _ _ _ _ _ _ hSp (pWh_d s) hpd hl PW hPw hb _ rfl p hp h0).mono ?_
      rintro e w' ⟨rfl, k⟩
      exact ⟨⟨_, _, _, rfl, RoA.of_good hg (by rw [fin1 h0, sgV_zero]) (by rw [fin1 h0, sgE_zero])⟩, k⟩
    · have h1 : 0 < nat (pWh s ++ oPt s) := by omega
      by_cases h30 : 30 < p
      · have hf := sg_huge (pNg s) (fin2 hg hb hR hl hp h1 h30)
        refine (rDec_G2_B_true s w hs hng hK c hc hi hn hz _ _ _ _ _ _ _ _ _ _ _ hSp (pWh_d s) hpd hl PW hPw hb _ rfl p hp h1 h30).mono ?_
        rintro e w' ⟨rfl, k⟩
        exact ⟨⟨_, _, _, rfl, RoA.of_good hg hf.1.symm hf.2.symm⟩, k⟩
      · by_cases h3 : p < -(((pWh s).length : Int) + (oPt s).length) - 3
        · have hf := fin3 hg hb hR hl hp h3
          refine (rDec_G3_B_true s w hs hng hK c hc hi hn hz _ _ _ _ _ _ _ _ _ _ _ hSp (pWh_d s) hpd hl PW hPw hb _ rfl p hp h1 h3).mono ?_
          rintro e w' ⟨rfl, k⟩
          exact ⟨⟨_, _, _, rfl, RoA.of_good hg (by rw [hf, sgV_zero]) (by rw [hf, sgE_zero])⟩, k⟩
        · by_cases h4 : p < 0
          · obtain ⟨kk, hkk⟩ : ∃ kk : Nat, p = -(kk : Int) := ⟨(-p).toNat, by omega⟩
            have hf := fin4 hg hR hl hp hkk (by omega) (by omega)
            refine (rDec_G4_B_true s w hs hng hK c hc hi hn hz _ _ _ _ _ _ _ _ _ _ _ hSp (pWh_d s) hpd hl PW hPw hb _ rfl p hp h1 kk hkk (by omega) (by omega)).mono ?_
            rintro e w' ⟨rfl, k⟩
            exact ⟨⟨_, _, _, rfl, RoA.of_good hg (by rw [hf]) (by rw [hf])⟩, k⟩
          · obtain ⟨kk, hkk⟩ : ∃ kk : Nat, p = (kk : Int) := ⟨p.toNat, by omega⟩
            have hf := fin5 hg hR hl hp hkk (by omega)
            refine (rDec_G5_B_true s w hs hng hK c hc hi hn hz _ _ _ _ _ _ _ _ _ _ _ hSp (pWh_d s) hpd hl PW hPw hb _ rfl p hp h1 kk hkk (by omega)).mono ?_
            rintro e w' ⟨rfl, k⟩
            exact ⟨⟨_, _, _, rfl, RoA.of_good hg (by rw [hf]) (by rw [hf])⟩, k⟩
  · have hSp := Split_bad s hs hin hhx hg
    refine (rDec_bad_B_true s w hs hng hK c hc hi hn hz _ _ _ _ _ _ _ _ _ _ _ (oEnd s) hSp).mono ?_
    rintro e w' ⟨rfl, k⟩
    exact ⟨⟨_, _, _, rfl, RoA.of_bad hg rfl⟩, k⟩
theorem dec_C_true (s : List UInt8) (w : World) (hs : s.length ≤ 4096) (hng : pNg s = true) (hK : 2 < s.length) (hc : (s.getD 1 0).toNat = 48) (d : Nat) (hd : (s.getD 2 0).toNat = d) (hz : d ≠ 120) :
    Calls Tryd.prog 7 #[.string ⟨s.toArray⟩] w fun e w' => (∃ V E K, e = .returned (.tuple #[.int .i64 V, .int .i64 E, .int .i64 K]) ∧ RoA s V E K) ∧ Keep w w' := by
  have hk1 : pK1 s = 1 := by unfold pK1; rw [hng]; rfl
  have hin : pK1 s < s.length → (s.getD (pK1 s) 0).toNat ≠ 105 ∧ (s.getD (pK1 s) 0).toNat ≠ 110 := by rw [hk1, hc]; exact fun _ => ⟨by omega, by omega⟩
  have hhx : pK1 s + 1 < s.length → (s.getD (pK1 s) 0).toNat = 48 → (s.getD (pK1 s + 1) 0).toNat ≠ 120 := by rw [hk1]; intro _ _; show (s.getD 2 0).toNat ≠ 120; rw [hd]; exact hz
  by_cases hg : oGood s
  · have hSp := Split_good s hs hin hhx hg
    obtain ⟨PW, hPw, hb, hR⟩ := power_of s hs hg
    have hl : (pWh s).length + (oPt s).length ≤ 4096 := Nat.le_trans (pK3_le s.length s).2 hs
    have hpd : allD (oPt s) := pPt_d s.length s
    obtain ⟨p, hp⟩ : ∃ p, PW - (oPt s).length + 6 = p := ⟨_, rfl⟩
    by_cases h0 : nat (pWh s ++ oPt s) = 0
    · refine (rDec_G1_C_true s w hs hng hK hc d hd hz _ _ _ _ _ _ _ _ _ _ _ hSp (pWh_d s) hpd hl PW hPw hb _ rfl p hp h0).mono ?_
      rintro e w' ⟨rfl, k⟩
      exact ⟨⟨_, _, _, rfl, RoA.of_good hg (by rw [fin1 h0, sgV_zero]) (by rw [fin1 h0, sgE_zero])⟩, k⟩
    · have h1 : 0 < nat (pWh s ++ oPt s) := by omega
      by_cases h30 : 30 < p
      · have hf := sg_huge (pNg s) (fin2 hg hb hR hl hp h1 h30)
        refine (rDec_G2_C_true s w hs hng hK hc d hd hz _ _ _ _ _ _ _ _ _ _ _ hSp (pWh_d s) hpd hl PW hPw hb _ rfl p hp h1 h30).mono ?_
        rintro e w' ⟨rfl, k⟩
        exact ⟨⟨_, _, _, rfl, RoA.of_good hg hf.1.symm hf.2.symm⟩, k⟩
      · by_cases h3 : p < -(((pWh s).length : Int) + (oPt s).length) - 3
        · have hf := fin3 hg hb hR hl hp h3
          refine (rDec_G3_C_true s w hs hng hK hc d hd hz _ _ _ _ _ _ _ _ _ _ _ hSp (pWh_d s) hpd hl PW hPw hb _ rfl p hp h1 h3).mono ?_
          rintro e w' ⟨rfl, k⟩
          exact ⟨⟨_, _, _, rfl, RoA.of_good hg (by rw [hf, sgV_zero]) (by rw [hf, sgE_zero])⟩, k⟩
        · by_cases h4 : p < 0
          · obtain ⟨kk, hkk⟩ : ∃ kk : Nat, p = -(kk : Int) := ⟨(-p).toNat, by omega⟩
            have hf := fin4 hg hR hl hp hkk (by omega) (by omega)
            refine (rDec_G4_C_true s w hs hng hK hc d hd hz _ _ _ _ _ _ _ _ _ _ _ hSp (pWh_d s) hpd hl PW hPw hb _ rfl p hp h1 kk hkk (by omega) (by omega)).mono ?_
            rintro e w' ⟨rfl, k⟩
            exact ⟨⟨_, _, _, rfl, RoA.of_good hg (by rw [hf]) (by rw [hf])⟩, k⟩
          · obtain ⟨kk, hkk⟩ : ∃ kk : Nat, p = (kk : Int) := ⟨p.toNat, by omega⟩
            have hf := fin5 hg hR hl hp hkk (by omega)
            refine (rDec_G5_C_true s w hs hng hK hc d hd hz _ _ _ _ _ _ _ _ _ _ _ hSp (pWh_d s) hpd hl PW hPw hb _ rfl p hp h1 kk hkk (by omega)).mono ?_
            rintro e w' ⟨rfl, k⟩
            exact ⟨⟨_, _, _, rfl, RoA.of_good hg (by rw [hf]) (by rw [hf])⟩, k⟩
  · have hSp := Split_bad s hs hin hhx hg
    refine (rDec_bad_C_true s w hs hng hK hc d hd hz _ _ _ _ _ _ _ _ _ _ _ (oEnd s) hSp).mono ?_
    rintro e w' ⟨rfl, k⟩
    exact ⟨⟨_, _, _, rfl, RoA.of_bad hg rfl⟩, k⟩
theorem dec_Z_true (s : List UInt8) (w : World) (hs : s.length ≤ 4096) (hng : pNg s = true) (hK : s.length = 1) :
    Calls Tryd.prog 7 #[.string ⟨s.toArray⟩] w fun e w' => (∃ V E K, e = .returned (.tuple #[.int .i64 V, .int .i64 E, .int .i64 K]) ∧ RoA s V E K) ∧ Keep w w' := by
  have hk1 : pK1 s = 1 := by unfold pK1; rw [hng]; rfl
  have hin : pK1 s < s.length → (s.getD (pK1 s) 0).toNat ≠ 105 ∧ (s.getD (pK1 s) 0).toNat ≠ 110 := by rw [hk1]; intro a; omega
  have hhx : pK1 s + 1 < s.length → (s.getD (pK1 s) 0).toNat = 48 → (s.getD (pK1 s + 1) 0).toNat ≠ 120 := by rw [hk1]; intro a; omega
  have hg : ¬ oGood s := by
    have e : pWh s = [] := by
      unfold pWh dg
      rw [hk1, List.drop_of_length_le (by omega)]
      simp
    exact (o_none e).1
  have hSp := Split_bad s hs hin hhx hg
  refine (rDec_bad_Z_true s w hs hng hK _ _ _ _ _ _ _ _ _ _ _ (oEnd s) hSp).mono ?_
  rintro e w' ⟨rfl, k⟩
  exact ⟨⟨_, _, _, rfl, RoA.of_bad hg rfl⟩, k⟩
theorem dec_true (s : List UInt8) (w : World) (hs : s.length ≤ 4096) (hng : pNg s = true) :
    Calls Tryd.prog 7 #[.string ⟨s.toArray⟩] w fun e w' => (∃ V E K, e = .returned (.tuple #[.int .i64 V, .int .i64 E, .int .i64 K]) ∧ RoA s V E K) ∧ Keep w w' := by
  have hk1 : pK1 s = 1 := by unfold pK1; rw [hng]; rfl
  have hle := pK1_le s
  rw [hk1] at hle
  by_cases hZ : s.length = 1
  · exact dec_Z_true s w hs hng hZ
  · obtain ⟨c, hc⟩ : ∃ c, (s.getD 1 0).toNat = c := ⟨_, rfl⟩
    by_cases hin : c = 105 ∨ c = 110
    · exact rDecimal_in_true s w hs hng (by omega) c hc hin
    · by_cases hA : s.length = 2
      · exact dec_A_true s w hs hng hA c hc (fun a => hin (.inl a)) (fun a => hin (.inr a))
      · by_cases h48 : c = 48
        · obtain ⟨d, hd⟩ : ∃ d, (s.getD 2 0).toNat = d := ⟨_, rfl⟩
          by_cases hx : d = 120
          · exact rDecimal_hex_true s w hs hng (by omega) (by rw [hc, h48]) (by rw [hd, hx])
          · exact dec_C_true s w hs hng (by omega) (by rw [hc, h48]) d hd hx
        · exact dec_B_true s w hs hng (by omega) c hc (fun a => hin (.inl a)) (fun a => hin (.inr a)) h48
theorem dec_A_false (s : List UInt8) (w : World) (hs : s.length ≤ 4096) (hng : pNg s = false) (hK : s.length = 1) (c : Nat) (hc : (s.getD 0 0).toNat = c) (hi : c ≠ 105) (hn : c ≠ 110) :
    Calls Tryd.prog 7 #[.string ⟨s.toArray⟩] w fun e w' => (∃ V E K, e = .returned (.tuple #[.int .i64 V, .int .i64 E, .int .i64 K]) ∧ RoA s V E K) ∧ Keep w w' := by
  have hk1 : pK1 s = 0 := by unfold pK1; rw [hng]; rfl
  have hin : pK1 s < s.length → (s.getD (pK1 s) 0).toNat ≠ 105 ∧ (s.getD (pK1 s) 0).toNat ≠ 110 := by rw [hk1, hc]; exact fun _ => ⟨hi, hn⟩
  have hhx : pK1 s + 1 < s.length → (s.getD (pK1 s) 0).toNat = 48 → (s.getD (pK1 s + 1) 0).toNat ≠ 120 := by rw [hk1]; intro a; omega
  by_cases hg : oGood s
  · have hSp := Split_good s hs hin hhx hg
    obtain ⟨PW, hPw, hb, hR⟩ := power_of s hs hg
    have hl : (pWh s).length + (oPt s).length ≤ 4096 := Nat.le_trans (pK3_le s.length s).2 hs
    have hpd : allD (oPt s) := pPt_d s.length s
    obtain ⟨p, hp⟩ : ∃ p, PW - (oPt s).length + 6 = p := ⟨_, rfl⟩
    by_cases h0 : nat (pWh s ++ oPt s) = 0
    · refine (rDec_G1_A_false s w hs hng hK c hc hi hn _ _ _ _ _ _ _ _ _ _ _ hSp (pWh_d s) hpd hl PW hPw hb _ rfl p hp h0).mono ?_
      rintro e w' ⟨rfl, k⟩
      exact ⟨⟨_, _, _, rfl, RoA.of_good hg (by rw [fin1 h0, sgV_zero]) (by rw [fin1 h0, sgE_zero])⟩, k⟩
    · have h1 : 0 < nat (pWh s ++ oPt s) := by omega
      by_cases h30 : 30 < p
      · have hf := sg_huge (pNg s) (fin2 hg hb hR hl hp h1 h30)
        refine (rDec_G2_A_false s w hs hng hK c hc hi hn _ _ _ _ _ _ _ _ _ _ _ hSp (pWh_d s) hpd hl PW hPw hb _ rfl p hp h1 h30).mono ?_
        rintro e w' ⟨rfl, k⟩
        exact ⟨⟨_, _, _, rfl, RoA.of_good hg hf.1.symm hf.2.symm⟩, k⟩
      · by_cases h3 : p < -(((pWh s).length : Int) + (oPt s).length) - 3
        · have hf := fin3 hg hb hR hl hp h3
          refine (rDec_G3_A_false s w hs hng hK c hc hi hn _ _ _ _ _ _ _ _ _ _ _ hSp (pWh_d s) hpd hl PW hPw hb _ rfl p hp h1 h3).mono ?_
          rintro e w' ⟨rfl, k⟩
          exact ⟨⟨_, _, _, rfl, RoA.of_good hg (by rw [hf, sgV_zero]) (by rw [hf, sgE_zero])⟩, k⟩
        · by_cases h4 : p < 0
          · obtain ⟨kk, hkk⟩ : ∃ kk : Nat, p = -(kk : Int) := ⟨(-p).toNat, by omega⟩
            have hf := fin4 hg hR hl hp hkk (by omega) (by omega)
            refine (rDec_G4_A_false s w hs hng hK c hc hi hn _ _ _ _ _ _ _ _ _ _ _ hSp (pWh_d s) hpd hl PW hPw hb _ rfl p hp h1 kk hkk (by omega) (by omega)).mono ?_
            rintro e w' ⟨rfl, k⟩
            exact ⟨⟨_, _, _, rfl, RoA.of_good hg (by rw [hf]) (by rw [hf])⟩, k⟩
          · obtain ⟨kk, hkk⟩ : ∃ kk : Nat, p = (kk : Int) := ⟨p.toNat, by omega⟩
            have hf := fin5 hg hR hl hp hkk (by omega)
            refine (rDec_G5_A_false s w hs hng hK c hc hi hn _ _ _ _ _ _ _ _ _ _ _ hSp (pWh_d s) hpd hl PW hPw hb _ rfl p hp h1 kk hkk (by omega)).mono ?_
            rintro e w' ⟨rfl, k⟩
            exact ⟨⟨_, _, _, rfl, RoA.of_good hg (by rw [hf]) (by rw [hf])⟩, k⟩
  · have hSp := Split_bad s hs hin hhx hg
    refine (rDec_bad_A_false s w hs hng hK c hc hi hn _ _ _ _ _ _ _ _ _ _ _ (oEnd s) hSp).mono ?_
    rintro e w' ⟨rfl, k⟩
    exact ⟨⟨_, _, _, rfl, RoA.of_bad hg rfl⟩, k⟩
theorem dec_B_false (s : List UInt8) (w : World) (hs : s.length ≤ 4096) (hng : pNg s = false) (hK : 1 < s.length) (c : Nat) (hc : (s.getD 0 0).toNat = c) (hi : c ≠ 105) (hn : c ≠ 110) (hz : c ≠ 48) :
    Calls Tryd.prog 7 #[.string ⟨s.toArray⟩] w fun e w' => (∃ V E K, e = .returned (.tuple #[.int .i64 V, .int .i64 E, .int .i64 K]) ∧ RoA s V E K) ∧ Keep w w' := by
  have hk1 : pK1 s = 0 := by unfold pK1; rw [hng]; rfl
  have hin : pK1 s < s.length → (s.getD (pK1 s) 0).toNat ≠ 105 ∧ (s.getD (pK1 s) 0).toNat ≠ 110 := by rw [hk1, hc]; exact fun _ => ⟨hi, hn⟩
  have hhx : pK1 s + 1 < s.length → (s.getD (pK1 s) 0).toNat = 48 → (s.getD (pK1 s + 1) 0).toNat ≠ 120 := by rw [hk1, hc]; intro _ a; exact absurd a hz
  by_cases hg : oGood s
  · have hSp := Split_good s hs hin hhx hg
    obtain ⟨PW, hPw, hb, hR⟩ := power_of s hs hg
    have hl : (pWh s).length + (oPt s).length ≤ 4096 := Nat.le_trans (pK3_le s.length s).2 hs
    have hpd : allD (oPt s) := pPt_d s.length s
    obtain ⟨p, hp⟩ : ∃ p, PW - (oPt s).length + 6 = p := ⟨_, rfl⟩
    by_cases h0 : nat (pWh s ++ oPt s) = 0
    · refine (rDec_G1_B_false s w hs hng hK c hc hi hn hz _ _ _ _ _ _ _ _ _ _ _ hSp (pWh_d s) hpd hl PW hPw hb _ rfl p hp h0).mono ?_
      rintro e w' ⟨rfl, k⟩
      exact ⟨⟨_, _, _, rfl, RoA.of_good hg (by rw [fin1 h0, sgV_zero]) (by rw [fin1 h0, sgE_zero])⟩, k⟩
    · have h1 : 0 < nat (pWh s ++ oPt s) := by omega
      by_cases h30 : 30 < p
      · have hf := sg_huge (pNg s) (fin2 hg hb hR hl hp h1 h30)
        refine (rDec_G2_B_false s w hs hng hK c hc hi hn hz _ _ _ _ _ _ _ _ _ _ _ hSp (pWh_d s) hpd hl PW hPw hb _ rfl p hp h1 h30).mono ?_
        rintro e w' ⟨rfl, k⟩
        exact ⟨⟨_, _, _, rfl, RoA.of_good hg hf.1.symm hf.2.symm⟩, k⟩
      · by_cases h3 : p < -(((pWh s).length : Int) + (oPt s).length) - 3
        · have hf := fin3 hg hb hR hl hp h3
          refine (rDec_G3_B_false s w hs hng hK c hc hi hn hz _ _ _ _ _ _ _ _ _ _ _ hSp (pWh_d s) hpd hl PW hPw hb _ rfl p hp h1 h3).mono ?_
          rintro e w' ⟨rfl, k⟩
          exact ⟨⟨_, _, _, rfl, RoA.of_good hg (by rw [hf, sgV_zero]) (by rw [hf, sgE_zero])⟩, k⟩
        · by_cases h4 : p < 0
          · obtain ⟨kk, hkk⟩ : ∃ kk : Nat, p = -(kk : Int) := ⟨(-p).toNat, by omega⟩
            have hf := fin4 hg hR hl hp hkk (by omega) (by omega)
            refine (rDec_G4_B_false s w hs hng hK c hc hi hn hz _ _ _ _ _ _ _ _ _ _ _ hSp (pWh_d s) hpd hl PW hPw hb _ rfl p hp h1 kk hkk (by omega) (by omega)).mono ?_
            rintro e w' ⟨rfl, k⟩
            exact ⟨⟨_, _, _, rfl, RoA.of_good hg (by rw [hf]) (by rw [hf])⟩, k⟩
          · obtain ⟨kk, hkk⟩ : ∃ kk : Nat, p = (kk : Int) := ⟨p.toNat, by omega⟩
            have hf := fin5 hg hR hl hp hkk (by omega)
            refine (rDec_G5_B_false s w hs hng hK c hc hi hn hz _ _ _ _ _ _ _ _ _ _ _ hSp (pWh_d s) hpd hl PW hPw hb _ rfl p hp h1 kk hkk (by omega)).mono ?_
            rintro e w' ⟨rfl, k⟩
            exact ⟨⟨_, _, _, rfl, RoA.of_good hg (by rw [hf]) (by rw [hf])⟩, k⟩
  · have hSp := Split_bad s hs hin hhx hg
    refine (rDec_bad_B_false s w hs hng hK c hc hi hn hz _ _ _ _ _ _ _ _ _ _ _ (oEnd s) hSp).mono ?_
    rintro e w' ⟨rfl, k⟩
    exact ⟨⟨_, _, _, rfl, RoA.of_bad hg rfl⟩, k⟩
theorem dec_C_false (s : List UInt8) (w : World) (hs : s.length ≤ 4096) (hng : pNg s = false) (hK : 1 < s.length) (hc : (s.getD 0 0).toNat = 48) (d : Nat) (hd : (s.getD 1 0).toNat = d) (hz : d ≠ 120) :
    Calls Tryd.prog 7 #[.string ⟨s.toArray⟩] w fun e w' => (∃ V E K, e = .returned (.tuple #[.int .i64 V, .int .i64 E, .int .i64 K]) ∧ RoA s V E K) ∧ Keep w w' := by
  have hk1 : pK1 s = 0 := by unfold pK1; rw [hng]; rfl
  have hin : pK1 s < s.length → (s.getD (pK1 s) 0).toNat ≠ 105 ∧ (s.getD (pK1 s) 0).toNat ≠ 110 := by rw [hk1, hc]; exact fun _ => ⟨by omega, by omega⟩
  have hhx : pK1 s + 1 < s.length → (s.getD (pK1 s) 0).toNat = 48 → (s.getD (pK1 s + 1) 0).toNat ≠ 120 := by rw [hk1]; intro _ _; show (s.getD 1 0).toNat ≠ 120; rw [hd]; exact hz
  by_cases hg : oGood s
  · have hSp := Split_good s hs hin hhx hg
    obtain ⟨PW, hPw, hb, hR⟩ := power_of s hs hg
    have hl : (pWh s).length + (oPt s).length ≤ 4096 := Nat.le_trans (pK3_le s.length s).2 hs
    have hpd : allD (oPt s) := pPt_d s.length s
    obtain ⟨p, hp⟩ : ∃ p, PW - (oPt s).length + 6 = p := ⟨_, rfl⟩
    by_cases h0 : nat (pWh s ++ oPt s) = 0
    · refine (rDec_G1_C_false s w hs hng hK hc d hd hz _ _ _ _ _ _ _ _ _ _ _ hSp (pWh_d s) hpd hl PW hPw hb _ rfl p hp h0).mono ?_
      rintro e w' ⟨rfl, k⟩
      exact ⟨⟨_, _, _, rfl, RoA.of_good hg (by rw [fin1 h0, sgV_zero]) (by rw [fin1 h0, sgE_zero])⟩, k⟩
    · have h1 : 0 < nat (pWh s ++ oPt s) := by omega
      by_cases h30 : 30 < p
      · have hf := sg_huge (pNg s) (fin2 hg hb hR hl hp h1 h30)
        refine (rDec_G2_C_false s w hs hng hK hc d hd hz _ _ _ _ _ _ _ _ _ _ _ hSp (pWh_d s) hpd hl PW hPw hb _ rfl p hp h1 h30).mono ?_
        rintro e w' ⟨rfl, k⟩
        exact ⟨⟨_, _, _, rfl, RoA.of_good hg hf.1.symm hf.2.symm⟩, k⟩
      · by_cases h3 : p < -(((pWh s).length : Int) + (oPt s).length) - 3
        · have hf := fin3 hg hb hR hl hp h3
          refine (rDec_G3_C_false s w hs hng hK hc d hd hz _ _ _ _ _ _ _ _ _ _ _ hSp (pWh_d s) hpd hl PW hPw hb _ rfl p hp h1 h3).mono ?_
          rintro e w' ⟨rfl, k⟩
          exact ⟨⟨_, _, _, rfl, RoA.of_good hg (by rw [hf, sgV_zero]) (by rw [hf, sgE_zero])⟩, k⟩
        · by_cases h4 : p < 0
          · obtain ⟨kk, hkk⟩ : ∃ kk : Nat, p = -(kk : Int) := ⟨(-p).toNat, by omega⟩
            have hf := fin4 hg hR hl hp hkk (by omega) (by omega)
            refine (rDec_G4_C_false s w hs hng hK hc d hd hz _ _ _ _ _ _ _ _ _ _ _ hSp (pWh_d s) hpd hl PW hPw hb _ rfl p hp h1 kk hkk (by omega) (by omega)).mono ?_
            rintro e w' ⟨rfl, k⟩
            exact ⟨⟨_, _, _, rfl, RoA.of_good hg (by rw [hf]) (by rw [hf])⟩, k⟩
          · obtain ⟨kk, hkk⟩ : ∃ kk : Nat, p = (kk : Int) := ⟨p.toNat, by omega⟩
            have hf := fin5 hg hR hl hp hkk (by omega)
            refine (rDec_G5_C_false s w hs hng hK hc d hd hz _ _ _ _ _ _ _ _ _ _ _ hSp (pWh_d s) hpd hl PW hPw hb _ rfl p hp h1 kk hkk (by omega)).mono ?_
            rintro e w' ⟨rfl, k⟩
            exact ⟨⟨_, _, _, rfl, RoA.of_good hg (by rw [hf]) (by rw [hf])⟩, k⟩
  · have hSp := Split_bad s hs hin hhx hg
    refine (rDec_bad_C_false s w hs hng hK hc d hd hz _ _ _ _ _ _ _ _ _ _ _ (oEnd s) hSp).mono ?_
    rintro e w' ⟨rfl, k⟩
    exact ⟨⟨_, _, _, rfl, RoA.of_bad hg rfl⟩, k⟩
theorem dec_Z_false (s : List UInt8) (w : World) (hs : s.length ≤ 4096) (hng : pNg s = false) (hK : s.length = 0) :
    Calls Tryd.prog 7 #[.string ⟨s.toArray⟩] w fun e w' => (∃ V E K, e = .returned (.tuple #[.int .i64 V, .int .i64 E, .int .i64 K]) ∧ RoA s V E K) ∧ Keep w w' := by
  have hk1 : pK1 s = 0 := by unfold pK1; rw [hng]; rfl
  have hin : pK1 s < s.length → (s.getD (pK1 s) 0).toNat ≠ 105 ∧ (s.getD (pK1 s) 0).toNat ≠ 110 := by rw [hk1]; intro a; omega
  have hhx : pK1 s + 1 < s.length → (s.getD (pK1 s) 0).toNat = 48 → (s.getD (pK1 s + 1) 0).toNat ≠ 120 := by rw [hk1]; intro a; omega
  have hg : ¬ oGood s := by
    have e : pWh s = [] := by
      unfold pWh dg
      rw [hk1, List.drop_of_length_le (by omega)]
      simp
    exact (o_none e).1
  have hSp := Split_bad s hs hin hhx hg
  refine (rDec_bad_Z_false s w hs hng hK _ _ _ _ _ _ _ _ _ _ _ (oEnd s) hSp).mono ?_
  rintro e w' ⟨rfl, k⟩
  exact ⟨⟨_, _, _, rfl, RoA.of_bad hg rfl⟩, k⟩
theorem dec_false (s : List UInt8) (w : World) (hs : s.length ≤ 4096) (hng : pNg s = false) :
    Calls Tryd.prog 7 #[.string ⟨s.toArray⟩] w fun e w' => (∃ V E K, e = .returned (.tuple #[.int .i64 V, .int .i64 E, .int .i64 K]) ∧ RoA s V E K) ∧ Keep w w' := by
  have hk1 : pK1 s = 0 := by unfold pK1; rw [hng]; rfl
  have hle := pK1_le s
  rw [hk1] at hle
  by_cases hZ : s.length = 0
  · exact dec_Z_false s w hs hng hZ
  · obtain ⟨c, hc⟩ : ∃ c, (s.getD 0 0).toNat = c := ⟨_, rfl⟩
    by_cases hin : c = 105 ∨ c = 110
    · exact rDecimal_in_false s w hs hng (by omega) c hc hin
    · by_cases hA : s.length = 1
      · exact dec_A_false s w hs hng hA c hc (fun a => hin (.inl a)) (fun a => hin (.inr a))
      · by_cases h48 : c = 48
        · obtain ⟨d, hd⟩ : ∃ d, (s.getD 1 0).toNat = d := ⟨_, rfl⟩
          by_cases hx : d = 120
          · exact rDecimal_hex_false s w hs hng (by omega) (by rw [hc, h48]) (by rw [hd, hx])
          · exact dec_C_false s w hs hng (by omega) (by rw [hc, h48]) d hd hx
        · exact dec_B_false s w hs hng (by omega) c hc (fun a => hin (.inl a)) (fun a => hin (.inr a)) h48
theorem decC : DecC := fun s w hs => by
  cases hng : pNg s with
  | true => exact dec_true s w hs hng
  | false => exact dec_false s w hs hng
/-- The law. -/
theorem law_all (s : List UInt8) (v : Int) (w : World) (hm : s.length ≤ 9223372036854775807) (hv : I64 v) (hT : Tb w) :
    Calls Tryd.prog 3 #[.string ⟨s.toArray⟩, .int .i64 v] w fun e w' => e = .returned (.bool true) ∧ Keep w w' := law_reads decC s v w hm hv hT
end Go.Proofs.YtgciimjcdhallaaDoor
