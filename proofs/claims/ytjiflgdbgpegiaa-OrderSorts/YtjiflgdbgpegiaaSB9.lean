import Derived.Test.YtjiflgdbgpegiaaSB7
set_option linter.unusedVariables false
set_option linter.unusedSimpArgs false
namespace Go.Proofs.Ytjiflgdbgpegiaa
open Go.RowKit
set_option maxRecDepth 100000 in
set_option maxHeartbeats 4000000 in
theorem sym_low (g c n a m b : Nat) (P A B Q : List Nat) (w : World) (IH : SymI g c n (A.length + B.length)) (hF : F64 (P ++ (A ++ (B ++ Q)))) (hn : (P ++ (A ++ (B ++ Q))).length = n) (hl : n ≤ 17592186044416) (ha : P.length = a) (hm : a + A.length = m) (hb : m + B.length = b) (hA2 : 2 ≤ A.length) (hB2 : 2 ≤ B.length) (hmd : A.length ≤ (A.length + B.length) / 2) (s1 : srt kI A) (s2 : srt kI B) (hA : Arr w g (P ++ (A ++ (B ++ Q)))) : SymP g c n a m b P A B Q w := by
  unfold SymP
  obtain ⟨la, hla⟩ : ∃ la, A.length = la := ⟨_, rfl⟩
  obtain ⟨lb, hlb⟩ : ∃ lb, B.length = lb := ⟨_, rfl⟩
  rw [hla, hlb] at hmd
  obtain ⟨h, hh⟩ : ∃ h, (la + lb) / 2 = h := ⟨_, rfl⟩
  rw [hh] at hmd
  have HN : Hid (P.length + la + lb + Q.length = n) := by show _ = _; rw [← hn]; simp; omega
  obtain ⟨md, hmd0⟩ : ∃ md, a + h = md := ⟨_, rfl⟩
  have hmid : ((a : Int) + (b : Int)) / 2 = (md : Int) := by omega
  have HL : Hid (A.length = la ∧ B.length = lb ∧ P.length = a ∧ a + la = m ∧ m + lb = b ∧ a + h = md ∧ h = (la + lb) / 2 ∧ 2 ≤ la ∧ 2 ≤ lb) := ⟨hla, hlb, ha, by omega, by omega, hmd0, hh.symm, by omega, by omega⟩
  have hd0 : ((m : Int) - (a : Int) == 1) = false := by rw [beq_eq_false_iff_ne]; omega
  have hd1 : ((b : Int) - (m : Int) == 1) = false := by rw [beq_eq_false_iff_ne]; omega
  have hbn : b ≤ n := by have := HN.out; omega
  have hmb : m < b := by omega
  have ham : a < m := by omega
  have hmdb : md ≤ b := by omega
  obtain ⟨s0, hs0⟩ : ∃ s0, h - lb = s0 := ⟨_, rfl⟩
  have cgt : decide ((m : Int) > (md : Int)) = false := decide_eq_false (by omega)
  have cgtn : ¬ md < m := by omega
  have EA : Hid (∀ i, i < la → (P ++ (A ++ (B ++ Q))).getD (a + i) 0 = A.getD i 0) := by
    intro i hi
    rw [getD_right 0 P _ (by omega), show a + i - P.length = i by omega, getD_left 0 _ _ (by omega)]
  have EB : Hid (∀ i, i < lb → (P ++ (A ++ (B ++ Q))).getD (m + i) 0 = B.getD i 0) := by
    intro i hi
    rw [getD_right 0 P _ (by omega), getD_right 0 A _ (by omega), show m + i - P.length - A.length = i by omega, getD_left 0 _ _ (by omega)]
  have FA : Hid (∀ i, i < la → A.getD i 0 < 18446744073709551616) := by
    intro i hi
    have hi2 : i < A.length := by omega
    exact hF _ (by simp [List.getD, hi2])
  have FB : Hid (∀ i, i < lb → B.getD i 0 < 18446744073709551616) := by
    intro i hi
    have hi2 : i < B.length := by omega
    exact hF _ (by simp [List.getD, hi2])
  replace hn : Hid _ := hn
  replace hF : Hid _ := hF
  replace IH : Hid _ := IH
  replace hA : Hid (Arr w g (P ++ (A ++ (B ++ Q)))) := hA
  replace s1 : Hid _ := s1
  replace s2 : Hid _ := s2
  have HS0 : Hid (h - lb = s0) := hs0
  have HMD : Hid (la ≤ h) := hmd
  clear ha hm hb hA2 hB2 hla hlb hh hmd0 hs0 hmd
  go_enter Try.func79, Try.ntmps79
  go_wp2_with fail
  go_loopw [20, 21] (fun iv jv wr => ∃ s t : Nat, iv = .int .i64 ((a + s : Nat) : Int) ∧ jv = .int .i64 ((a + t : Nat) : Int) ∧ s ≤ t ∧ a + t ≤ m ∧ a + t ≤ md ∧ s0 ≤ s ∧ Hid (∀ i, h - lb ≤ i → i < s → kI (A.getD i 0) ≤ kI (B.getD (h - 1 - i) 0)) ∧ Hid (∀ i, t ≤ i → i < la → i < h → kI (B.getD (h - 1 - i) 0) < kI (A.getD i 0)) ∧ ∃ q, wr = w.drewN q) (fun iv jv _ => (intOf jv).toNat - (intOf iv).toNat)
  case atStart =>
    have h1 := HL.out
    have h2 := HS0.out
    have h3 := HMD.out
    exact ⟨0, la, rfl, by rw [h1.2.2.2.1], by omega, by omega, by omega, by omega, fun i q1 q2 => by omega, fun i q1 q2 q3 => by omega, 0, rfl⟩
  case round =>
    obtain ⟨s, t, rfl, rfl, hst, htm, htd, hs0, H1, H2, q, rfl⟩ := hrel
    by_cases hlt : s < t
    · have hltc : ((a + s : Nat) : Int) < ((a + t : Nat) : Int) := by omega
      obtain ⟨u, hu⟩ : ∃ u, (s + t) / 2 = u := ⟨_, rfl⟩
      obtain ⟨cc, hc0⟩ : ∃ cc, a + u = cc := ⟨_, rfl⟩
      have hcc : ((a : Int) + (s : Int) + ((a : Int) + (t : Int))) / 2 = (cc : Int) := by omega
      have HH : Hid (a + u = cc ∧ s ≤ u ∧ u < t) := ⟨hc0, by omega, by omega⟩
      obtain ⟨v, hv⟩ : ∃ v, h - 1 - u = v := ⟨_, rfl⟩
      have hvb : v < lb ∧ u < la ∧ u < h ∧ v + u + 1 = h := by have h1 := HL.out; have h2 := HS0.out; omega
      obtain ⟨pc, hpc⟩ : ∃ pc, m + v = pc := ⟨_, rfl⟩
      have hpp : (md : Int) + (m : Int) - 1 - (cc : Int) = (pc : Int) := by have h1 := HL.out; omega
      have hccn : (cc : Int) < (n : Int) := by omega
      have hcn : cc < n := by omega
      have hpn : pc < n := by have h1 := HL.out; omega
      have hpcn : (pc : Int) < (n : Int) := by omega
      have hwp : IntKind.i64.wrap (pc : Int) = (pc : Int) := by rw [IntWalk.i64_left]; exact IntWalk.wrap64_in _ (by omega)
      have hwc : IntKind.i64.wrap (cc : Int) = (cc : Int) := by rw [IntWalk.i64_left]; exact IntWalk.wrap64_in _ (by omega)
      have cm := Arr.cell hA.out (j := cc) (by rw [hn.out]; omega)
      have ch := Arr.cell hA.out (j := pc) (by rw [hn.out]; omega)
      rw [← hc0, EA.out u hvb.2.1, hc0] at cm
      rw [← hpc, EB.out v hvb.1, hpc] at ch
      have hCmp := fun wx => Compare_any (B.getD v 0) (A.getD u 0) wx (FB.out v hvb.1) (FA.out u hvb.2.1)
      have hcl := cmpI_lt (B.getD v 0) (A.getD u 0)
      have HU : Hid (v < lb ∧ u < la ∧ u < h ∧ v + u + 1 = h ∧ h - 1 - u = v) := ⟨hvb.1, hvb.2.1, hvb.2.2.1, hvb.2.2.2, hv⟩
      obtain ⟨z, hz⟩ : ∃ z, A.getD u 0 = z := ⟨_, rfl⟩
      obtain ⟨y, hy⟩ : ∃ y, B.getD v 0 = y := ⟨_, rfl⟩
      have HZ : Hid (A.getD u 0 = z ∧ B.getD v 0 = y) := ⟨hz, hy⟩
      rw [hz] at cm hCmp hcl
      rw [hy] at ch hCmp hcl
      generalize cmpV (key y) (key z) = r at hCmp hcl
      clear hu hc0 hvb hz hy hpc hv
      by_cases hk : kI y < kI z
      · rw [decide_eq_true hk] at hcl
        have HK : Hid (kI y < kI z) := hk
        clear hk
        go_wp2_with fail
        refine wp_region_quiet_lit (by kernel_rfl) (by kernel_rfl) ?_
        iterate 14
          with_reducible refine wpQuiet_step ?_
          intro K hK
          go_simp
          first
            | (with_reducible refine hK _ ?_; clear hK K)
            | (with_reducible refine (if_neg ?_).mpr (hK _ ?_)
               · decide
               clear hK K)
            | (refine ⟨.int .i64 r, fun aw => (hCmp _).mono ?_, hK _ ?_⟩
               · rintro e w' ⟨rfl, rfl⟩; exact ⟨rfl, _, rfl⟩
               clear hK K)
            | (apply Exists.intro
               refine ⟨fun _ => ?_, hK _ ?_⟩
               · with_reducible rfl
               clear hK K)
        refine wpQuiet_nil ?_
        rintro _ ⟨nq, rfl⟩
        go_wp2_with fail
        refine ⟨⟨s, u, rfl, by have := HH.out; go_num, by have := HH.out; omega, by have := HH.out; omega, by have := HH.out; omega, hs0, H1, ?_, q + nq, by simp [World.drewN, Nat.add_assoc]⟩, ?_⟩
        · have h1 := HU.out
          have h2 := HZ.out
          have h3 := HL.out
          have h4 := HK.out
          rw [← h3.1]
          exact sym_false s1.out s2.out 0 (h := h) (c := u) (by omega) (by rw [h1.2.2.2.2, h2.1, h2.2]; exact h4)
        · have := HH.out; simp [intOf]; omega
      · rw [decide_eq_false hk] at hcl
        have HK : Hid (¬ kI y < kI z) := hk
        clear hk
        go_wp2_with fail
        refine wp_region_quiet_lit (by kernel_rfl) (by kernel_rfl) ?_
        iterate 14
          with_reducible refine wpQuiet_step ?_
          intro K hK
          go_simp
          first
            | (with_reducible refine hK _ ?_; clear hK K)
            | (with_reducible refine (if_neg ?_).mpr (hK _ ?_)
               · decide
               clear hK K)
            | (refine ⟨.int .i64 r, fun aw => (hCmp _).mono ?_, hK _ ?_⟩
               · rintro e w' ⟨rfl, rfl⟩; exact ⟨rfl, _, rfl⟩
               clear hK K)
            | (apply Exists.intro
               refine ⟨fun _ => ?_, hK _ ?_⟩
               · with_reducible rfl
               clear hK K)
        refine wpQuiet_nil ?_
        rintro _ ⟨nq, rfl⟩
        go_wp2_with fail
        refine ⟨⟨u + 1, t, by have := HH.out; go_num, rfl, by have := HH.out; omega, htm, htd, by have := HH.out; omega, ?_, H2, q + nq, by simp [World.drewN, Nat.add_assoc]⟩, ?_⟩
        · have h1 := HU.out
          have h2 := HZ.out
          have h3 := HL.out
          have h4 := HK.out
          intro i hi1 hi2
          exact sym_true s1.out s2.out 0 (h := h) (c := u) (by omega) (by omega) (by rw [h1.2.2.2.2, h2.1, h2.2]; omega) i (by omega) (by omega)
        · have := HH.out; simp [intOf]; omega
    · have hltc : ¬ ((a + s : Nat) : Int) < ((a + t : Nat) : Int) := by omega
      obtain rfl : s = t := by omega
      obtain ⟨u, hu⟩ : ∃ u, h - s = u := ⟨_, rfl⟩
      have hsl : s ≤ la ∧ s ≤ h ∧ u ≤ lb ∧ s + u = h := by have h1 := HL.out; have h2 := HS0.out; omega
      have hdone := sym_done s1.out s2.out 0 (h := h) (s := s) (by have h1 := HL.out; rw [h1.1, h1.2.1]; omega) (by have h1 := HL.out; have h2 := HS0.out; rw [h1.2.1]; omega) (by have h1 := HL.out; omega) hsl.2.1 (by have h1 := HL.out; rw [h1.2.1]; exact H1.out) (by have h1 := HL.out; rw [h1.1]; exact H2.out)
      rw [hu] at hdone
      obtain ⟨A1, hA1⟩ : ∃ A1, A.take s = A1 := ⟨_, rfl⟩
      obtain ⟨A2, hA2⟩ : ∃ A2, A.drop s = A2 := ⟨_, rfl⟩
      obtain ⟨B1, hB1⟩ : ∃ B1, B.take u = B1 := ⟨_, rfl⟩
      obtain ⟨B2, hB2⟩ : ∃ B2, B.drop u = B2 := ⟨_, rfl⟩
      have lA1 : A1.length = s := by have h1 := HL.out; rw [← hA1]; simp; omega
      have lB1 : B1.length = u := by have h1 := HL.out; rw [← hB1]; simp; omega
      have lA2 : s + A2.length = la := by have h1 := HL.out; rw [← hA2]; simp; omega
      have lB2 : u + B2.length = lb := by have h1 := HL.out; rw [← hB2]; simp; omega
      have eA : A = A1 ++ A2 := by rw [← hA1, ← hA2, List.take_append_drop]
      have eB : B = B1 ++ B2 := by rw [← hB1, ← hB2, List.take_append_drop]
      rw [hA1, hA2, hB1, hB2] at hdone
      have hA3 : Hid (Arr (w.drewN q) g (P ++ (A ++ (B ++ Q)))) := Arr.drewN hA.out q
      have kA : Oth g w (w.drewN q) := (Oth.refl g w).drewN q
      generalize w.drewN q = wv at hA3 kA ⊢
      clear hA H1 H2 EA EB FA FB hA1 hA2 hB1 hB2 hltc
      have hn2 := hn.out
      have hF2 := hF.out
      have IH2 := IH.out
      have s12 := s1.out
      have s22 := s2.out
      have hA32 := hA3.out
      clear hn hF IH s1 s2 hA3
      subst eA
      subst eB
      obtain ⟨st, hst0⟩ : ∃ st, a + s = st := ⟨_, rfl⟩
      obtain ⟨en, hen0⟩ : ∃ en, m + u = en := ⟨_, rfl⟩
      have hL := HL.out
      have een : (md : Int) + (m : Int) - (st : Int) = (en : Int) := by omega
      have hkk : (A1 ++ A2).length + (B1 ++ B2).length = la + lb := by omega
      have hrot := fun (h1 : 1 ≤ A2.length) (h2 : 1 ≤ B1.length) => sym_rot g c n st m en P A1 A2 B1 B2 Q wv hn2 hl (by omega) (by omega) (by omega) h1 h2 hA32
      have hone := fun (h1 : 1 ≤ A1.length) (h2 : 1 ≤ B1.length) (wx : World) (hx : Arr wx g (P ++ (A1 ++ (B1 ++ (A2 ++ (B2 ++ Q)))))) => sym_one g c n _ a st md P A1 A2 B1 B2 Q wx IH2 (by omega) hF2 hn2 (by omega) (by omega) (by omega) h1 h2 s12 s22 hx
      have htwo := fun (h1 : 1 ≤ A2.length) (h2 : 1 ≤ B2.length) (wx : World) (M1 : List Nat) (hM : M1.length = A1.length + B1.length) (he : eqv kI M1 (A1 ++ B1)) (hx : Arr wx g (P ++ (M1 ++ (A2 ++ (B2 ++ Q))))) => sym_two g c n _ a md en b P A1 A2 B1 B2 Q M1 wx IH2 (by omega) hF2 hn2 hM he (by omega) (by omega) (by omega) h1 h2 s12 s22 hx
      have HEND : Hid (∀ (M1 M2 : List Nat) (wx : World), M1.length = A1.length + B1.length → srt kI M1 → eqv kI M1 (A1 ++ B1) → M2.length = A2.length + B2.length → srt kI M2 → eqv kI M2 (A2 ++ B2) → Arr wx g ((P ++ M1) ++ (M2 ++ Q)) → ∃ M, M.length = (A1 ++ A2).length + (B1 ++ B2).length ∧ srt kI M ∧ eqv kI M ((A1 ++ A2) ++ (B1 ++ B2)) ∧ Arr wx g (P ++ (M ++ Q))) :=
        fun M1 M2 wx a1 a2 a3 a4 a5 a6 a7 => sym_end s12 s22 hdone.1 hdone.2 a1 a2 a3 a4 a5 a6 a7
      have HQ : Hid (srt kI A1 ∧ srt kI A2 ∧ srt kI B1 ∧ srt kI B2) := ⟨(List.pairwise_append.1 s12).1, (List.pairwise_append.1 s12).2.1, (List.pairwise_append.1 s22).1, (List.pairwise_append.1 s22).2.1⟩
      have HT : Hid (a + s = st ∧ m + u = en ∧ A1.length = s ∧ B1.length = u ∧ s + A2.length = la ∧ u + B2.length = lb ∧ s + u = h) := ⟨hst0, hen0, lA1, lB1, lA2, lB2, hsl.2.2.2⟩
      have HR : Hid (Arr wv g (P ++ ((A1 ++ A2) ++ ((B1 ++ B2) ++ Q)))) := hA32
      have hstn : st ≤ m := by omega
      have henb : en ≤ b := by omega
      rw [hst0]
      clear hdone hst0 hen0 lA1 lB1 lA2 lB2 hL hkk hn2 hF2 IH2 s12 s22 hA32 hu hlt htm htd hst hs0 hsl
      unfold SymP at hone htwo
      have hR12 : ∀ wx, Arr wx g (P ++ (A1 ++ (B1 ++ (A2 ++ (B2 ++ Q))))) → Arr wx g (P ++ ((A1 ++ B1) ++ (A2 ++ (B2 ++ Q)))) := fun wx hx => by simpa only [List.append_assoc] using hx
      have hR23 : ∀ (wx : World) (M1 : List Nat), Arr wx g (P ++ (M1 ++ (A2 ++ (B2 ++ Q)))) → Arr wx g ((P ++ M1) ++ ((A2 ++ B2) ++ Q)) := fun wx M1 hx => by simpa only [List.append_assoc] using hx
      by_cases bp : s < la
      · have bp2 := bp
        by_cases bq : 0 < u
        · have bq2 := bq
          by_cases bx : 0 < s
          · have bx2 := bx
            by_cases bY : u < lb
            · have bY2 := bY
              have f1 : (st : Int) < (m : Int) := by have := HT.out; have := HL.out; omega
              have f1n : st < m := by have := HT.out; have := HL.out; omega
              have f2 : (m : Int) < (en : Int) := by have := HT.out; have := HL.out; omega
              have f2n : m < en := by have := HT.out; have := HL.out; omega
              have f3 : (a : Int) < (st : Int) := by have := HT.out; have := HL.out; omega
              have f3n : a < st := by have := HT.out; have := HL.out; omega
              have f4 : (st : Int) < (md : Int) := by have := HT.out; have := HL.out; omega
              have f4n : st < md := by have := HT.out; have := HL.out; omega
              have f5 : (md : Int) < (en : Int) := by have := HT.out; have := HL.out; omega
              have f5n : md < en := by have := HT.out; have := HL.out; omega
              have f6 : (en : Int) < (b : Int) := by have := HT.out; have := HL.out; omega
              have f6n : en < b := by have := HT.out; have := HL.out; omega
              have hrot := hrot (by have := HT.out; have := HL.out; omega) (by have := HT.out; have := HL.out; omega)
              have hone := hone (by have := HT.out; have := HL.out; omega) (by have := HT.out; have := HL.out; omega)
              have htwo := htwo (by have := HT.out; have := HL.out; omega) (by have := HT.out; have := HL.out; omega)
              go_wp2_with (first | (go_at_call 89; refine hrot.mono ?_; rintro e w1 ⟨⟨v, rfl⟩, hR1, k1⟩; replace hR1 : Hid (Arr w1 g (P ++ (A1 ++ (B1 ++ (A2 ++ (B2 ++ Q)))))) := hR1; clear hrot) | (go_at_call 79; refine (hone w1 hR1.out).mono ?_; rintro e w2 ⟨⟨v, rfl⟩, ⟨M1, m1, m2, m3, m4⟩, k2⟩; replace m1 : Hid (M1.length = A1.length + B1.length) := m1; replace m2 : Hid (srt kI M1) := m2; replace m3 : Hid (eqv kI M1 (A1 ++ B1)) := m3; replace m4 : Hid (Arr w2 g (P ++ (M1 ++ (A2 ++ (B2 ++ Q))))) := m4; clear hone) | (go_at_call 79; refine (htwo w2 M1 m1.out m3.out m4.out).mono ?_; rintro e w3 ⟨⟨v, rfl⟩, ⟨M2, n1, n2, n3, n4⟩, k3⟩; replace n1 : Hid (M2.length = A2.length + B2.length) := n1; replace n2 : Hid (srt kI M2) := n2; replace n3 : Hid (eqv kI M2 (A2 ++ B2)) := n3; replace n4 : Hid (Arr w3 g ((P ++ M1) ++ (M2 ++ Q))) := n4; clear htwo))
              go_end0
              have hz := HEND.out M1 M2 _ m1.out m2.out m3.out n1.out n2.out n3.out n4.out
              exact ⟨⟨_, rfl⟩, by first | exact hz | simpa only [List.length_append, List.append_assoc] using hz, (((kA.trans k1).trans k2).trans k3)⟩
            · have bY2 := bY
              have f1 : (st : Int) < (m : Int) := by have := HT.out; have := HL.out; omega
              have f1n : st < m := by have := HT.out; have := HL.out; omega
              have f2 : (m : Int) < (en : Int) := by have := HT.out; have := HL.out; omega
              have f2n : m < en := by have := HT.out; have := HL.out; omega
              have f3 : (a : Int) < (st : Int) := by have := HT.out; have := HL.out; omega
              have f3n : a < st := by have := HT.out; have := HL.out; omega
              have f4 : (st : Int) < (md : Int) := by have := HT.out; have := HL.out; omega
              have f4n : st < md := by have := HT.out; have := HL.out; omega
              have f5 : (md : Int) < (en : Int) := by have := HT.out; have := HL.out; omega
              have f5n : md < en := by have := HT.out; have := HL.out; omega
              have f6 : ¬ (en : Int) < (b : Int) := by have := HT.out; have := HL.out; omega
              have f6n : ¬ en < b := by have := HT.out; have := HL.out; omega
              have hrot := hrot (by have := HT.out; have := HL.out; omega) (by have := HT.out; have := HL.out; omega)
              have hone := hone (by have := HT.out; have := HL.out; omega) (by have := HT.out; have := HL.out; omega)
              go_wp2_with (first | (go_at_call 89; refine hrot.mono ?_; rintro e w1 ⟨⟨v, rfl⟩, hR1, k1⟩; replace hR1 : Hid (Arr w1 g (P ++ (A1 ++ (B1 ++ (A2 ++ (B2 ++ Q)))))) := hR1; clear hrot) | (go_at_call 79; refine (hone w1 hR1.out).mono ?_; rintro e w2 ⟨⟨v, rfl⟩, ⟨M1, m1, m2, m3, m4⟩, k2⟩; replace m1 : Hid (M1.length = A1.length + B1.length) := m1; replace m2 : Hid (srt kI M1) := m2; replace m3 : Hid (eqv kI M1 (A1 ++ B1)) := m3; replace m4 : Hid (Arr w2 g (P ++ (M1 ++ (A2 ++ (B2 ++ Q))))) := m4; clear hone))
              go_end0
              have hz := HEND.out M1 (A2 ++ B2) _ m1.out m2.out m3.out (by simp) (srt_app (by have h1 := HT.out; have h2 := HL.out; exact .inr (List.eq_nil_of_length_eq_zero (by omega))) HQ.out.2.1 HQ.out.2.2.2) (eqv.refl _) (hR23 _ _ m4.out)
              exact ⟨⟨_, rfl⟩, by first | exact hz | simpa only [List.length_append, List.append_assoc] using hz, ((kA.trans k1).trans k2)⟩
          · have bx2 := bx
            by_cases bY : u < lb
            · have bY2 := bY
              have f1 : (st : Int) < (m : Int) := by have := HT.out; have := HL.out; omega
              have f1n : st < m := by have := HT.out; have := HL.out; omega
              have f2 : (m : Int) < (en : Int) := by have := HT.out; have := HL.out; omega
              have f2n : m < en := by have := HT.out; have := HL.out; omega
              have f3 : ¬ (a : Int) < (st : Int) := by have := HT.out; have := HL.out; omega
              have f3n : ¬ a < st := by have := HT.out; have := HL.out; omega
              have f4 : (st : Int) < (md : Int) := by have := HT.out; have := HL.out; omega
              have f4n : st < md := by have := HT.out; have := HL.out; omega
              have f5 : (md : Int) < (en : Int) := by have := HT.out; have := HL.out; omega
              have f5n : md < en := by have := HT.out; have := HL.out; omega
              have f6 : (en : Int) < (b : Int) := by have := HT.out; have := HL.out; omega
              have f6n : en < b := by have := HT.out; have := HL.out; omega
              have hrot := hrot (by have := HT.out; have := HL.out; omega) (by have := HT.out; have := HL.out; omega)
              have htwo := htwo (by have := HT.out; have := HL.out; omega) (by have := HT.out; have := HL.out; omega)
              go_wp2_with (first | (go_at_call 89; refine hrot.mono ?_; rintro e w1 ⟨⟨v, rfl⟩, hR1, k1⟩; replace hR1 : Hid (Arr w1 g (P ++ (A1 ++ (B1 ++ (A2 ++ (B2 ++ Q)))))) := hR1; clear hrot) | (go_at_call 79; refine (htwo w1 (A1 ++ B1) (by simp) (eqv.refl _) (hR12 _ hR1.out)).mono ?_; rintro e w3 ⟨⟨v, rfl⟩, ⟨M2, n1, n2, n3, n4⟩, k3⟩; replace n1 : Hid (M2.length = A2.length + B2.length) := n1; replace n2 : Hid (srt kI M2) := n2; replace n3 : Hid (eqv kI M2 (A2 ++ B2)) := n3; replace n4 : Hid (Arr w3 g ((P ++ (A1 ++ B1)) ++ (M2 ++ Q))) := n4; clear htwo))
              go_end0
              have hz := HEND.out (A1 ++ B1) M2 _ (by simp) (srt_app (by have h1 := HT.out; have h2 := HL.out; exact .inl (List.eq_nil_of_length_eq_zero (by omega))) HQ.out.1 HQ.out.2.2.1) (eqv.refl _) n1.out n2.out n3.out n4.out
              exact ⟨⟨_, rfl⟩, by first | exact hz | simpa only [List.length_append, List.append_assoc] using hz, ((kA.trans k1).trans k3)⟩
            · have bY2 := bY
              have f1 : (st : Int) < (m : Int) := by have := HT.out; have := HL.out; omega
              have f1n : st < m := by have := HT.out; have := HL.out; omega
              have f2 : (m : Int) < (en : Int) := by have := HT.out; have := HL.out; omega
              have f2n : m < en := by have := HT.out; have := HL.out; omega
              have f3 : ¬ (a : Int) < (st : Int) := by have := HT.out; have := HL.out; omega
              have f3n : ¬ a < st := by have := HT.out; have := HL.out; omega
              have f4 : (st : Int) < (md : Int) := by have := HT.out; have := HL.out; omega
              have f4n : st < md := by have := HT.out; have := HL.out; omega
              have f5 : (md : Int) < (en : Int) := by have := HT.out; have := HL.out; omega
              have f5n : md < en := by have := HT.out; have := HL.out; omega
              have f6 : ¬ (en : Int) < (b : Int) := by have := HT.out; have := HL.out; omega
              have f6n : ¬ en < b := by have := HT.out; have := HL.out; omega
              have hrot := hrot (by have := HT.out; have := HL.out; omega) (by have := HT.out; have := HL.out; omega)
              go_wp2_with (first | (go_at_call 89; refine hrot.mono ?_; rintro e w1 ⟨⟨v, rfl⟩, hR1, k1⟩; replace hR1 : Hid (Arr w1 g (P ++ (A1 ++ (B1 ++ (A2 ++ (B2 ++ Q)))))) := hR1; clear hrot))
              go_end0
              have hz := HEND.out (A1 ++ B1) (A2 ++ B2) _ (by simp) (srt_app (by have h1 := HT.out; have h2 := HL.out; exact .inl (List.eq_nil_of_length_eq_zero (by omega))) HQ.out.1 HQ.out.2.2.1) (eqv.refl _) (by simp) (srt_app (by have h1 := HT.out; have h2 := HL.out; exact .inr (List.eq_nil_of_length_eq_zero (by omega))) HQ.out.2.1 HQ.out.2.2.2) (eqv.refl _) (hR23 _ _ (hR12 _ hR1.out))
              exact ⟨⟨_, rfl⟩, by first | exact hz | simpa only [List.length_append, List.append_assoc] using hz, (kA.trans k1)⟩
        · have bq2 := bq
          by_cases bx : 0 < s
          · have bx2 := bx
            by_cases bY : u < lb
            · have bY2 := bY
              have f1 : (st : Int) < (m : Int) := by have := HT.out; have := HL.out; omega
              have f1n : st < m := by have := HT.out; have := HL.out; omega
              have f2 : ¬ (m : Int) < (en : Int) := by have := HT.out; have := HL.out; omega
              have f2n : ¬ m < en := by have := HT.out; have := HL.out; omega
              have f3 : (a : Int) < (st : Int) := by have := HT.out; have := HL.out; omega
              have f3n : a < st := by have := HT.out; have := HL.out; omega
              have f4 : ¬ (st : Int) < (md : Int) := by have := HT.out; have := HL.out; omega
              have f4n : ¬ st < md := by have := HT.out; have := HL.out; omega
              have f5 : (md : Int) < (en : Int) := by have := HT.out; have := HL.out; omega
              have f5n : md < en := by have := HT.out; have := HL.out; omega
              have f6 : (en : Int) < (b : Int) := by have := HT.out; have := HL.out; omega
              have f6n : en < b := by have := HT.out; have := HL.out; omega
              have hR1 : Hid (Arr wv g (P ++ (A1 ++ (B1 ++ (A2 ++ (B2 ++ Q)))))) := sym_norot (by have h1 := HT.out; have h2 := HL.out; exact .inr (List.eq_nil_of_length_eq_zero (by omega))) HR.out
              have htwo := htwo (by have := HT.out; have := HL.out; omega) (by have := HT.out; have := HL.out; omega)
              go_wp2_with (first | (go_at_call 79; refine (htwo wv (A1 ++ B1) (by simp) (eqv.refl _) (hR12 _ hR1.out)).mono ?_; rintro e w3 ⟨⟨v, rfl⟩, ⟨M2, n1, n2, n3, n4⟩, k3⟩; replace n1 : Hid (M2.length = A2.length + B2.length) := n1; replace n2 : Hid (srt kI M2) := n2; replace n3 : Hid (eqv kI M2 (A2 ++ B2)) := n3; replace n4 : Hid (Arr w3 g ((P ++ (A1 ++ B1)) ++ (M2 ++ Q))) := n4; clear htwo))
              go_end0
              have hz := HEND.out (A1 ++ B1) M2 _ (by simp) (srt_app (by have h1 := HT.out; have h2 := HL.out; exact .inr (List.eq_nil_of_length_eq_zero (by omega))) HQ.out.1 HQ.out.2.2.1) (eqv.refl _) n1.out n2.out n3.out n4.out
              exact ⟨⟨_, rfl⟩, by first | exact hz | simpa only [List.length_append, List.append_assoc] using hz, (kA.trans k3)⟩
            · have bY2 := bY
              have f1 : (st : Int) < (m : Int) := by have := HT.out; have := HL.out; omega
              have f1n : st < m := by have := HT.out; have := HL.out; omega
              have f2 : ¬ (m : Int) < (en : Int) := by have := HT.out; have := HL.out; omega
              have f2n : ¬ m < en := by have := HT.out; have := HL.out; omega
              have f3 : (a : Int) < (st : Int) := by have := HT.out; have := HL.out; omega
              have f3n : a < st := by have := HT.out; have := HL.out; omega
              have f4 : ¬ (st : Int) < (md : Int) := by have := HT.out; have := HL.out; omega
              have f4n : ¬ st < md := by have := HT.out; have := HL.out; omega
              have f5 : (md : Int) < (en : Int) := by have := HT.out; have := HL.out; omega
              have f5n : md < en := by have := HT.out; have := HL.out; omega
              have f6 : ¬ (en : Int) < (b : Int) := by have := HT.out; have := HL.out; omega
              have f6n : ¬ en < b := by have := HT.out; have := HL.out; omega
              have hR1 : Hid (Arr wv g (P ++ (A1 ++ (B1 ++ (A2 ++ (B2 ++ Q)))))) := sym_norot (by have h1 := HT.out; have h2 := HL.out; exact .inr (List.eq_nil_of_length_eq_zero (by omega))) HR.out
              go_wp2_with (fail)
              go_end0
              have hz := HEND.out (A1 ++ B1) (A2 ++ B2) _ (by simp) (srt_app (by have h1 := HT.out; have h2 := HL.out; exact .inr (List.eq_nil_of_length_eq_zero (by omega))) HQ.out.1 HQ.out.2.2.1) (eqv.refl _) (by simp) (srt_app (by have h1 := HT.out; have h2 := HL.out; exact .inr (List.eq_nil_of_length_eq_zero (by omega))) HQ.out.2.1 HQ.out.2.2.2) (eqv.refl _) (hR23 _ _ (hR12 _ hR1.out))
              exact ⟨⟨_, rfl⟩, by first | exact hz | simpa only [List.length_append, List.append_assoc] using hz, kA⟩
          · have bx2 := bx
            exfalso; have := HT.out; have := HL.out; omega
      · have bp2 := bp
        by_cases bq : 0 < u
        · have bq2 := bq
          by_cases bx : 0 < s
          · have bx2 := bx
            by_cases bY : u < lb
            · have bY2 := bY
              have f1 : ¬ (st : Int) < (m : Int) := by have := HT.out; have := HL.out; omega
              have f1n : ¬ st < m := by have := HT.out; have := HL.out; omega
              have f2 : (m : Int) < (en : Int) := by have := HT.out; have := HL.out; omega
              have f2n : m < en := by have := HT.out; have := HL.out; omega
              have f3 : (a : Int) < (st : Int) := by have := HT.out; have := HL.out; omega
              have f3n : a < st := by have := HT.out; have := HL.out; omega
              have f4 : (st : Int) < (md : Int) := by have := HT.out; have := HL.out; omega
              have f4n : st < md := by have := HT.out; have := HL.out; omega
              have f5 : ¬ (md : Int) < (en : Int) := by have := HT.out; have := HL.out; omega
              have f5n : ¬ md < en := by have := HT.out; have := HL.out; omega
              have f6 : (en : Int) < (b : Int) := by have := HT.out; have := HL.out; omega
              have f6n : en < b := by have := HT.out; have := HL.out; omega
              have hR1 : Hid (Arr wv g (P ++ (A1 ++ (B1 ++ (A2 ++ (B2 ++ Q)))))) := sym_norot (by have h1 := HT.out; have h2 := HL.out; exact .inl (List.eq_nil_of_length_eq_zero (by omega))) HR.out
              have hone := hone (by have := HT.out; have := HL.out; omega) (by have := HT.out; have := HL.out; omega)
              go_wp2_with (first | (go_at_call 79; refine (hone wv hR1.out).mono ?_; rintro e w2 ⟨⟨v, rfl⟩, ⟨M1, m1, m2, m3, m4⟩, k2⟩; replace m1 : Hid (M1.length = A1.length + B1.length) := m1; replace m2 : Hid (srt kI M1) := m2; replace m3 : Hid (eqv kI M1 (A1 ++ B1)) := m3; replace m4 : Hid (Arr w2 g (P ++ (M1 ++ (A2 ++ (B2 ++ Q))))) := m4; clear hone))
              go_end0
              have hz := HEND.out M1 (A2 ++ B2) _ m1.out m2.out m3.out (by simp) (srt_app (by have h1 := HT.out; have h2 := HL.out; exact .inl (List.eq_nil_of_length_eq_zero (by omega))) HQ.out.2.1 HQ.out.2.2.2) (eqv.refl _) (hR23 _ _ m4.out)
              exact ⟨⟨_, rfl⟩, by first | exact hz | simpa only [List.length_append, List.append_assoc] using hz, (kA.trans k2)⟩
            · have bY2 := bY
              exfalso; have := HT.out; have := HL.out; omega
          · have bx2 := bx
            by_cases bY : u < lb
            · have bY2 := bY
              have f1 : ¬ (st : Int) < (m : Int) := by have := HT.out; have := HL.out; omega
              have f1n : ¬ st < m := by have := HT.out; have := HL.out; omega
              have f2 : (m : Int) < (en : Int) := by have := HT.out; have := HL.out; omega
              have f2n : m < en := by have := HT.out; have := HL.out; omega
              have f3 : ¬ (a : Int) < (st : Int) := by have := HT.out; have := HL.out; omega
              have f3n : ¬ a < st := by have := HT.out; have := HL.out; omega
              have f4 : (st : Int) < (md : Int) := by have := HT.out; have := HL.out; omega
              have f4n : st < md := by have := HT.out; have := HL.out; omega
              have f5 : ¬ (md : Int) < (en : Int) := by have := HT.out; have := HL.out; omega
              have f5n : ¬ md < en := by have := HT.out; have := HL.out; omega
              have f6 : (en : Int) < (b : Int) := by have := HT.out; have := HL.out; omega
              have f6n : en < b := by have := HT.out; have := HL.out; omega
              have hR1 : Hid (Arr wv g (P ++ (A1 ++ (B1 ++ (A2 ++ (B2 ++ Q)))))) := sym_norot (by have h1 := HT.out; have h2 := HL.out; exact .inl (List.eq_nil_of_length_eq_zero (by omega))) HR.out
              go_wp2_with (fail)
              go_end0
              have hz := HEND.out (A1 ++ B1) (A2 ++ B2) _ (by simp) (srt_app (by have h1 := HT.out; have h2 := HL.out; exact .inl (List.eq_nil_of_length_eq_zero (by omega))) HQ.out.1 HQ.out.2.2.1) (eqv.refl _) (by simp) (srt_app (by have h1 := HT.out; have h2 := HL.out; exact .inl (List.eq_nil_of_length_eq_zero (by omega))) HQ.out.2.1 HQ.out.2.2.2) (eqv.refl _) (hR23 _ _ (hR12 _ hR1.out))
              exact ⟨⟨_, rfl⟩, by first | exact hz | simpa only [List.length_append, List.append_assoc] using hz, kA⟩
            · have bY2 := bY
              exfalso; have := HT.out; have := HL.out; omega
        · have bq2 := bq
          by_cases bx : 0 < s
          · have bx2 := bx
            by_cases bY : u < lb
            · have bY2 := bY
              have f1 : ¬ (st : Int) < (m : Int) := by have := HT.out; have := HL.out; omega
              have f1n : ¬ st < m := by have := HT.out; have := HL.out; omega
              have f2 : ¬ (m : Int) < (en : Int) := by have := HT.out; have := HL.out; omega
              have f2n : ¬ m < en := by have := HT.out; have := HL.out; omega
              have f3 : (a : Int) < (st : Int) := by have := HT.out; have := HL.out; omega
              have f3n : a < st := by have := HT.out; have := HL.out; omega
              have f4 : ¬ (st : Int) < (md : Int) := by have := HT.out; have := HL.out; omega
              have f4n : ¬ st < md := by have := HT.out; have := HL.out; omega
              have f5 : ¬ (md : Int) < (en : Int) := by have := HT.out; have := HL.out; omega
              have f5n : ¬ md < en := by have := HT.out; have := HL.out; omega
              have f6 : (en : Int) < (b : Int) := by have := HT.out; have := HL.out; omega
              have f6n : en < b := by have := HT.out; have := HL.out; omega
              have hR1 : Hid (Arr wv g (P ++ (A1 ++ (B1 ++ (A2 ++ (B2 ++ Q)))))) := sym_norot (by have h1 := HT.out; have h2 := HL.out; exact .inr (List.eq_nil_of_length_eq_zero (by omega))) HR.out
              go_wp2_with (fail)
              go_end0
              have hz := HEND.out (A1 ++ B1) (A2 ++ B2) _ (by simp) (srt_app (by have h1 := HT.out; have h2 := HL.out; exact .inr (List.eq_nil_of_length_eq_zero (by omega))) HQ.out.1 HQ.out.2.2.1) (eqv.refl _) (by simp) (srt_app (by have h1 := HT.out; have h2 := HL.out; exact .inl (List.eq_nil_of_length_eq_zero (by omega))) HQ.out.2.1 HQ.out.2.2.2) (eqv.refl _) (hR23 _ _ (hR12 _ hR1.out))
              exact ⟨⟨_, rfl⟩, by first | exact hz | simpa only [List.length_append, List.append_assoc] using hz, kA⟩
            · have bY2 := bY
              exfalso; have := HT.out; have := HL.out; omega
          · have bx2 := bx
            exfalso; have := HT.out; have := HL.out; omega
end Go.Proofs.Ytjiflgdbgpegiaa
