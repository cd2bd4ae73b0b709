import Derived.Test.YtjiflgdbgpegiaaSB3
set_option linter.unusedVariables false
set_option linter.unusedSimpArgs false
namespace Go.Proofs.Ytjiflgdbgpegiaa
open Go.RowKit
/-- Two stretches of one length, by what lies there. -/
theorem swap_parts (g c n m a b : Nat) (P U R V Q : List Nat) (w : World) (hn : (P ++ (U ++ (R ++ (V ++ Q)))).length = n) (hl : n ≤ 17592186044416) (hU : U.length = m) (hV : V.length = m) (ha : P.length = a) (hb : a + m + R.length = b) (hA : Arr w g (P ++ (U ++ (R ++ (V ++ Q))))) :
    Calls Try.prog 95 #[.slice (some ⟨g, 0, none⟩) n c, .int .i64 (a : Int), .int .i64 (b : Int), .int .i64 (m : Int), cmpF] w fun e w' => (∃ v, e = .returned v) ∧ Arr w' g (P ++ (V ++ (R ++ (U ++ Q)))) ∧ Oth g w w' := by
  have hlen : (P ++ (U ++ (R ++ (V ++ Q)))).length = P.length + U.length + R.length + V.length + Q.length := by simp; omega
  have h := swapRange_any g c a b m (P ++ (U ++ (R ++ (V ++ Q)))) w (by omega) (by omega) (by omega) hA
  rw [hn] at h
  have e := swF_all 0 P U R V Q (by omega)
  rw [hU, ha, hb] at e
  rw [e] at h
  exact h
set_option maxRecDepth 100000 in
set_option maxHeartbeats 2000000 in
theorem rotate_any (g c n a m b : Nat) (P U V Q : List Nat) (w : World) (hn : (P ++ (U ++ (V ++ Q))).length = n) (hl : n ≤ 17592186044416) (ha : P.length = a) (hm : a + U.length = m) (hb : m + V.length = b) (hU : 1 ≤ U.length) (hV : 1 ≤ V.length) (hA : Arr w g (P ++ (U ++ (V ++ Q)))) :
    Calls Try.prog 89 #[.slice (some ⟨g, 0, none⟩) n c, .int .i64 (a : Int), .int .i64 (m : Int), .int .i64 (b : Int), cmpF] w fun e w' => (∃ v, e = .returned v) ∧ Arr w' g (P ++ (V ++ (U ++ Q))) ∧ Oth g w w' := by
  obtain ⟨i0, hi0⟩ : ∃ i0, U.length = i0 := ⟨_, rfl⟩
  obtain ⟨j0, hj0⟩ : ∃ j0, V.length = j0 := ⟨_, rfl⟩
  have HN : Hid (P.length + U.length + V.length + Q.length = n) := by show _ = _; rw [← hn]; simp; omega
  have e1 : (m : Int) - (a : Int) = (i0 : Int) := by omega
  have e2 : (b : Int) - (m : Int) = (j0 : Int) := by omega
  have HP : Hid (P.length = a) := ha
  have HU : Hid (U.length = i0 ∧ V.length = j0 ∧ 1 ≤ i0 ∧ 1 ≤ j0 ∧ a + i0 = m ∧ m + j0 = b) := ⟨hi0, hj0, by omega, by omega, by omega, by omega⟩
  have hA0 : Hid (Arr w g (P ++ ([] ++ (U ++ (V ++ ([] ++ Q)))))) := hA
  have hbn : b ≤ n := by have := HN.out; omega
  have hmb : m ≤ b := by omega
  clear hn ha hm hb hU hV hi0 hj0 hA
  go_enter Try.func89, Try.ntmps89
  go_wp2_with fail
  go_loopw [10, 11] (fun iv jv wr => ∃ (i j : Nat) (X U' V' Y : List Nat), iv = .int .i64 (i : Int) ∧ jv = .int .i64 (j : Int) ∧ i ≤ m ∧ m + j ≤ b ∧ Hid (1 ≤ i ∧ 1 ≤ j ∧ U'.length = i ∧ V'.length = j ∧ a + X.length + i = m ∧ V ++ U = X ++ (V' ++ (U' ++ Y)) ∧ m + j + Y.length = b) ∧ Hid (Arr wr g (P ++ (X ++ (U' ++ (V' ++ (Y ++ Q)))))) ∧ Oth g w wr) (fun iv jv _ => (intOf iv).toNat + (intOf jv).toNat)
  case atStart =>
    have h := HU.out
    exact ⟨i0, j0, [], U, V, [], rfl, rfl, by omega, by omega, ⟨by omega, by omega, h.1, h.2.1, by simp; omega, by simp, by simp; omega⟩, hA0, Oth.refl _ _⟩
  case round =>
    obtain ⟨i, j, X, U', V', Y, rfl, rfl, him, hjb, hI, hW, ko⟩ := hrel
    have HLEN : Hid (P.length + X.length + U'.length + V'.length + Y.length + Q.length = n) := by
      show _ = _
      have h1 := HN.out; have h2 := hI.out; have h3 := HP.out; have h4 := HU.out
      omega
    obtain ⟨p, hp⟩ : ∃ p, m - i = p := ⟨_, rfl⟩
    have HPX : Hid ((P ++ X).length = p ∧ p + i = m) := by
      have h2 := hI.out; have h3 := HP.out
      exact ⟨by simp; omega, by omega⟩
    have e3 : (m : Int) - (i : Int) = (p : Int) := by omega
    clear hp
    rcases Nat.lt_trichotomy i j with hij | hij | hij
    · have c1 : ((i : Int) != (j : Int)) = true := by rw [bne_iff_ne]; omega
      have c2 : decide ((i : Int) > (j : Int)) = false := decide_eq_false (by omega)
      have c2n : ¬ j < i := by omega
      obtain ⟨q, hq⟩ : ∃ q, m + j - i = q := ⟨_, rfl⟩
      obtain ⟨d, hd⟩ : ∃ d, j - i = d := ⟨_, rfl⟩
      have e4 : (m : Int) + (j : Int) - (i : Int) = (q : Int) := by omega
      have e5 : (j : Int) - (i : Int) = (d : Int) := by omega
      have HD : Hid (d + i = j ∧ 1 ≤ d ∧ q = m + d) := ⟨by omega, by omega, by omega⟩
      have hs : Calls Try.prog 95 #[.slice (some ⟨g, 0, none⟩) n c, .int .i64 (p : Int), .int .i64 (q : Int), .int .i64 (i : Int), cmpF] wr fun e w' => (∃ v, e = .returned v) ∧ Arr w' g ((P ++ X) ++ (V'.drop d ++ (V'.take d ++ (U' ++ (Y ++ Q))))) ∧ Oth g wr w' := by
        have h1 := hI.out; have h2 := HPX.out; have h3 := HD.out; have h4 := HLEN.out
        have hdl : (V'.drop d).length = i := by simp; omega
        have htl : (V'.take d).length = d := by simp; omega
        have hA := hW.out
        have hsp : P ++ (X ++ (U' ++ (V' ++ (Y ++ Q)))) = (P ++ X) ++ (U' ++ (V'.take d ++ (V'.drop d ++ (Y ++ Q)))) := by
          rw [← List.append_assoc (V'.take d), List.take_append_drop]; simp
        rw [hsp] at hA
        exact swap_parts g c n i p q (P ++ X) U' (V'.take d) (V'.drop d) (Y ++ Q) wr (by rw [← hsp]; simp; omega) hl h1.2.2.1 hdl h2.1 (by rw [htl]; omega) hA
      have HX : Hid (i ≤ m ∧ m + d ≤ b ∧ (1 ≤ i ∧ 1 ≤ d ∧ (V'.drop d).length = i ∧ (V'.take d).length = d ∧ a + X.length + i = m ∧ V ++ U = X ++ (V'.take d ++ (V'.drop d ++ (U' ++ Y))) ∧ m + d + (U' ++ Y).length = b)) := by
        have h1 := hI.out; have h3 := HD.out
        refine ⟨by omega, by omega, h1.1, h3.2.1, by simp; omega, by simp; omega, h1.2.2.2.2.1, ?_, by simp; omega⟩
        rw [h1.2.2.2.2.2.1, ← List.append_assoc (V'.take d), List.take_append_drop]
      clear hij hq hd
      go_wp2_with (go_at_call 95; refine hs.mono ?_; rintro e w2 ⟨⟨v, rfl⟩, hA2, k2⟩; replace hA2 : Hid _ := hA2)
      refine ⟨⟨i, d, X, V'.drop d, V'.take d, U' ++ Y, rfl, rfl, HX.out.1, HX.out.2.1, HX.out.2.2, ?_, ko.trans k2⟩, ?_⟩
      · have e : P ++ (X ++ (V'.drop d ++ (V'.take d ++ ((U' ++ Y) ++ Q)))) = (P ++ X) ++ (V'.drop d ++ (V'.take d ++ (U' ++ (Y ++ Q)))) := by simp only [List.append_assoc]
        show Arr _ _ _
        rw [e]
        exact hA2.out
      · have := HD.out; have := HX.out.2.2.1; simp [intOf]; omega
    · subst hij
      have c1 : ((i : Int) != (i : Int)) = false := by simp
      have hs : Calls Try.prog 95 #[.slice (some ⟨g, 0, none⟩) n c, .int .i64 (p : Int), .int .i64 (m : Int), .int .i64 (i : Int), cmpF] wr fun e w' => (∃ v, e = .returned v) ∧ Arr w' g ((P ++ X) ++ (V' ++ ([] ++ (U' ++ (Y ++ Q))))) ∧ Oth g wr w' := by
        have h1 := hI.out; have h2 := HPX.out; have h4 := HLEN.out
        have hA := hW.out
        have hsp : P ++ (X ++ (U' ++ (V' ++ (Y ++ Q)))) = (P ++ X) ++ (U' ++ ([] ++ (V' ++ (Y ++ Q)))) := by simp
        rw [hsp] at hA
        exact swap_parts g c n i p m (P ++ X) U' [] V' (Y ++ Q) wr (by rw [← hsp]; simp; omega) hl h1.2.2.1 h1.2.2.2.1 h2.1 (by simp; omega) hA
      go_wp2_with (go_at_call 95; refine hs.mono ?_; rintro e w2 ⟨⟨v, rfl⟩, hA2, k2⟩; replace hA2 : Hid _ := hA2)
      go_end0
      refine ⟨⟨_, rfl⟩, ?_, ko.trans k2⟩
      have h1 := hI.out.2.2.2.2.2.1
      have e : P ++ (V ++ (U ++ Q)) = (P ++ X) ++ (V' ++ ([] ++ (U' ++ (Y ++ Q)))) := by
        rw [← List.append_assoc V, h1]
        simp only [List.append_assoc, List.nil_append]
      rw [e]
      exact hA2.out
    · have c1 : ((i : Int) != (j : Int)) = true := by rw [bne_iff_ne]; omega
      have c2 : decide ((i : Int) > (j : Int)) = true := decide_eq_true (by omega)
      have c2n : j < i := hij
      obtain ⟨d, hd⟩ : ∃ d, i - j = d := ⟨_, rfl⟩
      have e5 : (i : Int) - (j : Int) = (d : Int) := by omega
      have HD : Hid (d + j = i ∧ 1 ≤ d) := ⟨by omega, by omega⟩
      have hs : Calls Try.prog 95 #[.slice (some ⟨g, 0, none⟩) n c, .int .i64 (p : Int), .int .i64 (m : Int), .int .i64 (j : Int), cmpF] wr fun e w' => (∃ v, e = .returned v) ∧ Arr w' g ((P ++ X) ++ (V' ++ (U'.drop j ++ (U'.take j ++ (Y ++ Q))))) ∧ Oth g wr w' := by
        have h1 := hI.out; have h2 := HPX.out; have h3 := HD.out; have h4 := HLEN.out
        have hdl : (U'.drop j).length = d := by simp; omega
        have htl : (U'.take j).length = j := by simp; omega
        have hA := hW.out
        have hsp : P ++ (X ++ (U' ++ (V' ++ (Y ++ Q)))) = (P ++ X) ++ (U'.take j ++ (U'.drop j ++ (V' ++ (Y ++ Q)))) := by
          rw [← List.append_assoc (U'.take j), List.take_append_drop]; simp
        rw [hsp] at hA
        exact swap_parts g c n j p m (P ++ X) (U'.take j) (U'.drop j) V' (Y ++ Q) wr (by rw [← hsp]; simp; omega) hl htl h1.2.2.2.1 h2.1 (by rw [hdl]; omega) hA
      have HX : Hid (d ≤ m ∧ m + j ≤ b ∧ (1 ≤ d ∧ 1 ≤ j ∧ (U'.drop j).length = d ∧ (U'.take j).length = j ∧ a + (X ++ V').length + d = m ∧ V ++ U = (X ++ V') ++ (U'.take j ++ (U'.drop j ++ Y)) ∧ m + j + Y.length = b)) := by
        have h1 := hI.out; have h3 := HD.out
        refine ⟨by omega, by omega, h3.2, h1.2.1, by simp; omega, by simp; omega, by simp; omega, ?_, h1.2.2.2.2.2.2⟩
        rw [h1.2.2.2.2.2.1, ← List.append_assoc (U'.take j), List.take_append_drop, List.append_assoc]
      clear hij hd
      go_wp2_with (go_at_call 95; refine hs.mono ?_; rintro e w2 ⟨⟨v, rfl⟩, hA2, k2⟩; replace hA2 : Hid _ := hA2)
      refine ⟨⟨d, j, X ++ V', U'.drop j, U'.take j, Y, rfl, rfl, HX.out.1, HX.out.2.1, HX.out.2.2, ?_, ko.trans k2⟩, ?_⟩
      · have e : P ++ ((X ++ V') ++ (U'.drop j ++ (U'.take j ++ (Y ++ Q)))) = (P ++ X) ++ (V' ++ (U'.drop j ++ (U'.take j ++ (Y ++ Q)))) := by simp only [List.append_assoc]
        show Arr _ _ _
        rw [e]
        exact hA2.out
      · have := HD.out; have := HX.out.2.2.2.1; simp [intOf]; omega
end Go.Proofs.Ytjiflgdbgpegiaa
