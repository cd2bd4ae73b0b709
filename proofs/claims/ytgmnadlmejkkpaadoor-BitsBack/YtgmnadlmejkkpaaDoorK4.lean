import Derived.Test.YtgmnadlmejkkpaaDoorK3
set_option linter.unusedVariables false
set_option linter.unusedSimpArgs false
namespace Go.Proofs.YtgmnadlmejkkpaaDoor
open Go.RowKit
theorem bt_S8 (l : List Nat) (i : Nat) (h : i < l.length) (hx : l.getD i 0 < 256) : bt (S8 l) i = l.getD i 0 := by
  have hs : i < (S8 l).size := by rw [S8_size]; exact h
  rw [bt_eq hs]
  have e : (S8 l)[i]'hs = UInt8.ofNat (l[i]'h) := by
    show (S8 l).data[i] = _
    simp [S8]
  rw [e]
  have e2 : l.getD i 0 = l[i]'h := by simp [List.getD, h]
  rw [e2] at hx ⊢
  simp
  omega
theorem bt_dg (l : List Nat) (n i : Nat) (h : i < n) : bt (S8 (dg l n)) i = if hs l i then 49 else 48 := by
  have e : (dg l n).getD i 0 = if hs l i then 49 else 48 := by simp [dg, List.getD, h]
  rw [bt_S8 _ _ (by rw [dg_length]; exact h) (by rw [e]; split <;> omega), e]
/-- What was printed is read as it was. -/
theorem Read_dg (l : List Nat) (n : Nat) (w : World) (hn : n ≤ 1048576) (hl : l.length = (n + 63) / 64) (hw : W64 l) (hb : ∀ i, n ≤ i → hs l i = false) :
    Calls Tryd.prog 50 #[.string (S8 (dg l n))] w fun e w' => ∃ a c, e = .returned (.tuple #[.slice a l.length c, .int .i64 (n : Nat), .int .i64 0, .int .i64 0]) ∧ Rd w' a l ∧ Keep w w' := by
  have hsz : (S8 (dg l n)).size = n := by rw [S8_size, dg_length]
  refine (Read_ok (S8 (dg l n)) w (by rw [hsz]; exact hn)).mono ?_
  rintro e w' h
  rcases h with ⟨-, a, c, l', rfl, h1, h2, h3⟩ | ⟨p, hp, -, h1, h2, -⟩
  · have e2 : l' = l := by
      refine mkl_eq h2 ⟨by rw [hsz]; exact hl, hw, ?_⟩
      intro i
      rw [hsz]
      by_cases hi : i < n
      · rw [decide_eq_true hi, Bool.true_and]
        show hs l i = (bt (S8 (dg l n)) i == 49)
        rw [bt_dg l n i hi]
        cases hs l i <;> rfl
      · rw [decide_eq_false hi, Bool.false_and, hb i (by omega)]
    subst e2
    exact ⟨a, c, by rw [hsz], h1, h3⟩
  · exfalso
    rw [hsz] at hp
    rw [bt_dg l n p hp] at h1 h2
    cases e : hs l p
    · rw [e] at h1; exact h1 rfl
    · rw [e] at h2; exact h2 rfl
/-- The runs make the set. -/
theorem runs_back {l l' : List Nat} {L : List (Nat × Nat)} (hw : W64 l) (hw' : W64 l') (hl : l'.length = l.length) (hc : Cov l L (64 * l.length)) (h : ∀ p, hs l' p = true ↔ ∃ j, j < L.length ∧ (L.getD j (0, 0)).1 ≤ p ∧ p < (L.getD j (0, 0)).2) : l' = l := by
  apply hs_ext hl hw' hw
  intro p hp
  rw [hl] at hp
  have h1 := h p
  rw [← hc p hp] at h1
  cases e1 : hs l p <;> cases e2 : hs l' p
  · rfl
  · exact absurd (h1.1 e2) (by rw [e1]; simp)
  · exact absurd (h1.2 e1) (by rw [e2]; simp)
  · rfl
theorem Ch.low {l : List Nat} {L : List (Nat × Nat)} {n : Nat} (h : Ch L (64 * l.length)) (hc : Cov l L (64 * l.length)) (hb : ∀ i, n ≤ i → hs l i = false) : Ch L n := by
  intro j hj
  obtain ⟨q1, q2, q3⟩ := h j hj
  refine ⟨q1, ?_, q3⟩
  have := (hc ((L.getD j (0, 0)).2 - 1) (by omega)).2 ⟨j, hj, by omega, by omega⟩
  by_cases hh : n ≤ (L.getD j (0, 0)).2 - 1
  · rw [hb _ hh] at this; cases this
  · omega
set_option maxRecDepth 100000 in
set_option maxHeartbeats 2000000 in
theorem back_ok (a : Option Addr) (ca n : Nat) (l : List Nat) (w : World) (hn : n ≤ 1048576) (hl : l.length = (n + 63) / 64) (ha : Rd w a l) (hw : W64 l) (hT : Tab w) (hb : ∀ i, n ≤ i → hs l i = false) :
    Calls Tryd.prog 9 #[.slice a l.length ca, .int .i64 (n : Nat)] w fun e w' => e = .returned (.bool true) ∧ Keep w w' := by
  have hL := lives_any w hT
  have hP := fun wx (k : Keep w wx) => Print_ok a ca n l wx hn hl (ha.keep k) hw hb
  have hR := fun wx => Read_dg l n wx hn hl hw hb
  have hRu := fun wx (k : Keep w wx) => Runs_any a ca l wx (by omega) (ha.keep k) hw (hT.keep k)
  have hsz : (S8 (dg l n)).size = n := by rw [S8_size, dg_length]
  have hS := fun wx b cb (k : Keep w wx) (h : Rd wx b l) => Same_any a b ca cb l wx (by omega) (ha.keep k) h
  have Hl : Hid (l.length = (n + 63) / 64) := hl
  clear hl
  generalize S8 (dg l n) = S at *
  go_enter Tryd.func9, Tryd.ntmps9
  go_wp2_with fail
  refine hL.mono ?_
  rintro e w1 ⟨rfl, k1⟩
  go_wp2_with fail
  refine (hP w1 k1).mono ?_
  rintro e w2 ⟨rfl, k2⟩
  have t2 := k1.trans k2
  clear hP hL
  go_wp2_with fail
  refine (hR w2).mono ?_
  rintro e w3 ⟨a3, c3, rfl, r3, k3⟩
  have t3 := t2.trans k3
  clear hR
  go_wp2_with fail
  refine (hRu w3 t3).mono ?_
  rintro e w4 ⟨v, L, rfl, oL, nL, chL', covL, k4⟩
  obtain ⟨av, cv, rfl, hcv, rdL⟩ := oL.shape
  have t4 := t3.trans k4
  have hO := Of_ok av cv n L w4 hn (by have := Hl.out; omega) rdL (chL'.low covL hb)
  clear hRu
  go_wp2_with fail
  refine hO.mono ?_
  rintro e w5 ⟨l5, rfl, row5, n5, w5', b5, k5⟩
  have e5 : l5 = l := runs_back hw w5' (by rw [n5]; exact Hl.out.symm) covL b5
  subst e5
  have t5 := t4.trans k5
  have r5 : Rd w5 (some ⟨w4.heap.size, 0, none⟩) l5 := by
    have := row5.rd 0 l5.length (by omega)
    rw [List.drop_zero, List.take_of_length_le (Nat.le_refl _)] at this
    exact this
  have hS1 := hS w5 a3 c3 t5 (r3.keep (k4.trans k5))
  have hS2 := fun wx (k : Keep w5 wx) => hS wx (some ⟨w4.heap.size, 0, none⟩) l5.length (t5.trans k) (r5.keep k)
  clear hO hS b5 n5
  go_wp2_with fail
  refine hS1.mono ?_
  rintro e w6 ⟨rfl, k6⟩
  go_wp2_with fail
  refine (hS2 w6 k6).mono ?_
  rintro e w7 ⟨rfl, k7⟩
  go_wp2_with fail
  go_ret
  exact ⟨rfl, t5.trans (k6.trans k7)⟩
set_option maxRecDepth 100000 in
set_option maxHeartbeats 1000000 in
theorem law_back (a : Option Addr) (ca : Nat) (l : List Nat) (n : Int) (w : World) (hl : l.length ≤ 17592186044416) (ha : Rd w a l) (hw : W64 l) (hT : Tab w) :
    Calls Tryd.prog 9 #[.slice a l.length ca, .int .i64 n] w fun e w' => e = .returned (.bool true) ∧ Keep w w' := by
  have hL := lives_any w hT
  have hP := fun wx (k : Keep w wx) => Print_any a ca l n wx hl (ha.keep k) hw
  have hW := fun w => Words_any n w
  by_cases h : n < 0 ∨ 1048576 < n
  · rw [(pr_far h).1, (pr_far h).2] at hP
    rw [(wd_no h).1, (wd_no h).2] at hW
    clear h
    go_enter Tryd.func9, Tryd.ntmps9
    go_wp2_with fail
    refine hL.mono ?_
    rintro e w1 ⟨rfl, k1⟩
    go_wp2_with fail
    refine (hP w1 k1).mono ?_
    rintro e w2 ⟨rfl, k2⟩
    go_wp2_with fail
    refine (hW w2).mono ?_
    rintro e w3 ⟨rfl, rfl⟩
    go_wp2_with fail
    go_ret
    exact ⟨rfl, k1.trans k2⟩
  · by_cases h2 : (l.length : Int) = (n + 63) / 64
    · obtain ⟨m, rfl⟩ := Int.eq_ofNat_of_zero_le (show 0 ≤ n by omega)
      by_cases h3 : (m : Int) ≤ hiI l
      · rw [(pr_bits h h2 h3).1, (pr_bits h h2 h3).2] at hP
        rw [(wd_ok h).1, (wd_ok h).2, ← h2] at hW
        have hH := fun wx (k : Keep w wx) => Highest_hi a ca l hl hw wx (ha.keep k)
        generalize hiI l = H at *
        clear h h2
        go_enter Tryd.func9, Tryd.ntmps9
        go_wp2_with fail
        refine hL.mono ?_
        rintro e w1 ⟨rfl, k1⟩
        go_wp2_with fail
        refine (hP w1 k1).mono ?_
        rintro e w2 ⟨rfl, k2⟩
        have t2 := k1.trans k2
        go_wp2_with fail
        refine (hW w2).mono ?_
        rintro e w3 ⟨rfl, rfl⟩
        go_wp2_with fail
        refine (hH w3 t2).mono ?_
        rintro e w4 ⟨rfl, k4⟩
        go_wp2_with fail
        go_ret
        exact ⟨rfl, t2.trans k4⟩
      · exact back_ok a ca m l w (by omega) (by omega) ha hw hT (hi_none h3)
    · rw [(pr_size h h2).1, (pr_size h h2).2] at hP
      rw [(wd_ok h).1, (wd_ok h).2] at hW
      have hne : ((n + 63) / 64 != (l.length : Int)) = true := by rw [bne_iff_ne]; exact fun e => h2 e.symm
      generalize (n + 63) / 64 = q at *
      clear h
      go_enter Tryd.func9, Tryd.ntmps9
      go_wp2_with fail
      refine hL.mono ?_
      rintro e w1 ⟨rfl, k1⟩
      go_wp2_with fail
      refine (hP w1 k1).mono ?_
      rintro e w2 ⟨rfl, k2⟩
      go_wp2_with fail
      refine (hW w2).mono ?_
      rintro e w3 ⟨rfl, rfl⟩
      go_wp2_with fail
      go_ret
      exact ⟨rfl, k1.trans k2⟩
end Go.Proofs.YtgmnadlmejkkpaaDoor
