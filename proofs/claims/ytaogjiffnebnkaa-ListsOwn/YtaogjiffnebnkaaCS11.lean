import Derived.Test.YtaogjiffnebnkaaCS7
set_option linter.unusedVariables false
set_option linter.unusedSimpArgs false
namespace Go.Proofs.Ytaogjiffnebnkaa.Cu
open Go.RowKit
set_option maxRecDepth 100000 in
set_option maxHeartbeats 4000000 in
theorem sym_high (kb g c n a m b : Nat) (P A B Q : List It) (w : World) (IH : SymI kb g c n (A.length + B.length)) (hF : F64 (P ++ (A ++ (B ++ Q)))) (hn : (P ++ (A ++ (B ++ Q))).length = n) (hl : n ≤ 17592186044416) (ha : P.length = a) (hm : a + A.length = m) (hb : m + B.length = b) (hA2 : 2 ≤ A.length) (hB2 : 2 ≤ B.length) (hmd : (A.length + B.length) / 2 < A.length) (s1 : srt kI A) (s2 : srt kI B) (hA : Arr kb w g (P ++ (A ++ (B ++ Q)))) : SymP kb g c n a m b P A B Q w := by
  unfold SymP
  obtain ⟨la, hla⟩ : ∃ la, A.length = la := ⟨_, rfl⟩
  obtain ⟨lb, hlb⟩ : ∃ lb, B.length = lb := ⟨_, rfl⟩
  rw [hla, hlb] at hmd
  obtain ⟨h, hh⟩ : ∃ h, (la + lb) / 2 = h := ⟨_, rfl⟩
  rw [hh] at hmd
  have HN : Hid (P.length + la + lb + Q.length = n) := by show _ = _; rw [← hn]; simp; omega
  obtain ⟨md, hmd0⟩ : ∃ md, a + h = md := ⟨_, rfl⟩
  have hmid : ((a : Int) + (b : Int)) / 2 = (md : Int) := by omega
  have HL : Hid (A.length = la ∧ B.length = lb ∧ P.length = a ∧ a + la = m ∧ m + lb = b ∧ a + h = md ∧ h = (la + lb) / 2 ∧ 2 ≤ la ∧ 2 ≤ lb) := ⟨hla, hlb, ha, by omega, by omega, hmd0, hh.symm, by omega, by omega⟩
  have hd0 : ((m : Int) - (a : Int) == 1) = false := by rw [beq_eq_false_iff_ne]; omega
  have hd1 : ((b : Int) - (m : Int) == 1) = false := by rw [beq_eq_false_iff_ne]; omega
  have hbn : b ≤ n := by have := HN.out; omega
  have hmb : m < b := by omega
  have ham : a < m := by omega
  have hmdb : md ≤ b := by omega
  obtain ⟨s0, hs0⟩ : ∃ s0, h - lb = s0 := ⟨_, rfl⟩
  have cgt : decide ((m : Int) > (md : Int)) = true := decide_eq_true (by omega)
  have cgtn : md < m := by omega
  have es0 : (md : Int) + (m : Int) - (b : Int) = ((a + s0 : Nat) : Int) := by omega
  have EA : Hid (∀ i, i < la → (P ++ (A ++ (B ++ Q))).getD (a + i) d0 = A.getD i d0) := by
    intro i hi
    rw [getD_right d0 P _ (by omega), show a + i - P.length = i by omega, getD_left d0 _ _ (by omega)]
  have EB : Hid (∀ i, i < lb → (P ++ (A ++ (B ++ Q))).getD (m + i) d0 = B.getD i d0) := by
    intro i hi
    rw [getD_right d0 P _ (by omega), getD_right d0 A _ (by omega), show m + i - P.length - A.length = i by omega, getD_left d0 _ _ (by omega)]
  have FA : Hid (∀ i, i < la → F64 [A.getD i d0]) := by
    intro i hi q hq
    have hi2 : i < A.length := by omega
    rw [List.mem_singleton.1 hq]
    exact hF _ (by simp [List.getD, hi2])
  have FB : Hid (∀ i, i < lb → F64 [B.getD i d0]) := by
    intro i hi q hq
    have hi2 : i < B.length := by omega
    rw [List.mem_singleton.1 hq]
    exact hF _ (by simp [List.getD, hi2])
  replace hn : Hid _ := hn
  replace hF : Hid _ := hF
  replace IH : Hid _ := IH
  replace hA : Hid (Arr kb w g (P ++ (A ++ (B ++ Q)))) := hA
  replace s1 : Hid _ := s1
  replace s2 : Hid _ := s2
  have HS0 : Hid (h - lb = s0) := hs0
  have HMD : Hid (h < la) := hmd
  clear ha hm hb hA2 hB2 hla hlb hh hmd0 hs0 hmd
  go_enter Try.func106, Try.ntmps106
  go_wp2_with fail
  go_loopw [20, 21] (fun iv jv wr => ∃ s t : Nat, iv = .int .i64 ((a + s : Nat) : Int) ∧ jv = .int .i64 ((a + t : Nat) : Int) ∧ s ≤ t ∧ a + t ≤ m ∧ a + t ≤ md ∧ s0 ≤ s ∧ Hid (∀ i, h - lb ≤ i → i < s → kI (A.getD i d0) ≤ kI (B.getD (h - 1 - i) d0)) ∧ Hid (∀ i, t ≤ i → i < la → i < h → kI (B.getD (h - 1 - i) d0) < kI (A.getD i d0)) ∧ Keep w wr) (fun iv jv _ => (intOf jv).toNat - (intOf iv).toNat)
  case atStart =>
    have h1 := HL.out
    have h2 := HS0.out
    have h3 := HMD.out
    exact ⟨s0, h, rfl, by rw [h1.2.2.2.2.2.1], by omega, by omega, by omega, by omega, fun i q1 q2 => by omega, fun i q1 q2 q3 => by omega, Keep.refl w⟩
  case round =>
    obtain ⟨s, t, rfl, rfl, hst, htm, htd, hs0, H1, H2, kq⟩ := hrel
    have hAq : Hid (Arr kb wr g (P ++ (A ++ (B ++ Q)))) := hA.out.keep kq
    by_cases hlt : s < t
    · have hltc : ((a + s : Nat) : Int) < ((a + t : Nat) : Int) := by omega
      obtain ⟨u, hu⟩ : ∃ u, (s + t) / 2 = u := ⟨_, rfl⟩
      obtain ⟨cc, hc0⟩ : ∃ cc, a + u = cc := ⟨_, rfl⟩
      have hcc : ((a : Int) + (s : Int) + ((a : Int) + (t : Int))) / 2 = (cc : Int) := by omega
      have HH : Hid (a + u = cc ∧ s ≤ u ∧ u < t) := ⟨hc0, by omega, by omega⟩
      obtain ⟨v, hv⟩ : ∃ v, h - 1 - u = v := ⟨_, rfl⟩
      have hvb : v < lb ∧ u < la ∧ u < h ∧ v + u + 1 = h := by have h1 := HL.out; have h2 := HS0.out; omega
      obtain ⟨pc, hpc⟩ : ∃ pc, m + v = pc := ⟨_, rfl⟩
      have hpp : (md : Int) + (m : Int) - 1 - (cc : Int) = (pc : Int) := by have h1 := HL.out; omega
      have hccn : (cc : Int) < (n : Int) := by omega
      have hcn : cc < n := by omega
      have hpn : pc < n := by have h1 := HL.out; omega
      have hpcn : (pc : Int) < (n : Int) := by omega
      have hwp : IntKind.i64.wrap (pc : Int) = (pc : Int) := by rw [IntWalk.i64_left]; exact IntWalk.wrap64_in _ (by omega)
      have hwc : IntKind.i64.wrap (cc : Int) = (cc : Int) := by rw [IntWalk.i64_left]; exact IntWalk.wrap64_in _ (by omega)
      have zk := hAq.out.box
      have cm := Arr.cell hAq.out (j := cc) (by rw [hn.out]; omega)
      have ch := Arr.cell hAq.out (j := pc) (by rw [hn.out]; omega)
      rw [← hc0, EA.out u hvb.2.1, hc0] at cm
      rw [← hpc, EB.out v hvb.1, hpc] at ch
      have hCmp := fun (wx : World) (hz : wx.cell? ⟨kb, 0, none⟩ = some (.func (.func 54) #[] #[])) => Compare_any kb (B.getD v d0) (A.getD u d0) wx (FB.out v hvb.1) (FA.out u hvb.2.1) hz
      have hcl := cmpI_lt (B.getD v d0) (A.getD u d0)
      have HU : Hid (v < lb ∧ u < la ∧ u < h ∧ v + u + 1 = h ∧ h - 1 - u = v) := ⟨hvb.1, hvb.2.1, hvb.2.2.1, hvb.2.2.2, hv⟩
      obtain ⟨z, hz⟩ : ∃ z, A.getD u d0 = z := ⟨_, rfl⟩
      obtain ⟨y, hy⟩ : ∃ y, B.getD v d0 = y := ⟨_, rfl⟩
      have HZ : Hid (A.getD u d0 = z ∧ B.getD v d0 = y) := ⟨hz, hy⟩
      rw [hz] at cm hCmp hcl
      rw [hy] at ch hCmp hcl
      generalize cmpQ (kI y) (kI z) = r at hCmp hcl
      obtain ⟨cx0, cx1, cx2, cx3, cx4, gcx0, gcx1, gcx2, gcx3, gcx4⟩ := cm
      obtain ⟨cy0, cy1, cy2, cy3, cy4, gcy0, gcy1, gcy2, gcy3, gcy4⟩ := ch
      clear hu hc0 hvb hz hy hpc hv
      by_cases hk : kI y < kI z
      · rw [decide_eq_true hk] at hcl
        have HK : Hid (kI y < kI z) := hk
        clear hk
        go_wp2_with fail
        refine region_keepQ (Keep.refl wr) (by kernel_rfl) (by kernel_rfl) ?_
        repeat
          with_reducible refine wpQuiet_step ?_
          intro K hK
          go_simp
          first
            | (with_reducible refine hK _ ?_; clear hK K)
            | (with_reducible refine (if_neg ?_).mpr (hK _ ?_)
               · decide
               clear hK K)
            | (apply Exists.intro
               with_reducible refine ⟨fun wq hq => ?_, hK _ ?_⟩
               · first
                   | with_reducible rfl
                   | with_reducible exact (hCmp wq (hq.cell zk)).mono fun e w'' h => ⟨h.1, hq.trans h.2⟩
                   | (have qcx0 := hq.cell cx0; have qcx1 := hq.cell cx1; have qcx2 := hq.cell cx2; have qcx3 := hq.cell cx3; have qcx4 := hq.cell cx4; have qcy0 := hq.cell cy0; have qcy1 := hq.cell cy1; have qcy2 := hq.cell cy2; have qcy3 := hq.cell cy3; have qcy4 := hq.cell cy4; go_simp; with_reducible rfl)
               clear hK K)
        with_reducible refine wpQuiet_nil ?_
        intro wv kv3
        go_simp
        go_wp2_with fail
        refine ⟨⟨s, u, rfl, by have := HH.out; go_num, by have := HH.out; omega, by have := HH.out; omega, by have := HH.out; omega, hs0, H1, ?_, kq.trans kv3⟩, ?_⟩
        · have h1 := HU.out
          have h2 := HZ.out
          have h3 := HL.out
          have h4 := HK.out
          rw [← h3.1]
          exact sym_false s1.out s2.out d0 (h := h) (c := u) (by omega) (by rw [h1.2.2.2.2, h2.1, h2.2]; exact h4)
        · have := HH.out; simp [intOf]; omega
      · rw [decide_eq_false hk] at hcl
        have HK : Hid (¬ kI y < kI z) := hk
        clear hk
        go_wp2_with fail
        refine region_keepQ (Keep.refl wr) (by kernel_rfl) (by kernel_rfl) ?_
        repeat
          with_reducible refine wpQuiet_step ?_
          intro K hK
          go_simp
          first
            | (with_reducible refine hK _ ?_; clear hK K)
            | (with_reducible refine (if_neg ?_).mpr (hK _ ?_)
               · decide
               clear hK K)
            | (apply Exists.intro
               with_reducible refine ⟨fun wq hq => ?_, hK _ ?_⟩
               · first
                   | with_reducible rfl
                   | with_reducible exact (hCmp wq (hq.cell zk)).mono fun e w'' h => ⟨h.1, hq.trans h.2⟩
                   | (have qcx0 := hq.cell cx0; have qcx1 := hq.cell cx1; have qcx2 := hq.cell cx2; have qcx3 := hq.cell cx3; have qcx4 := hq.cell cx4; have qcy0 := hq.cell cy0; have qcy1 := hq.cell cy1; have qcy2 := hq.cell cy2; have qcy3 := hq.cell cy3; have qcy4 := hq.cell cy4; go_simp; with_reducible rfl)
               clear hK K)
        with_reducible refine wpQuiet_nil ?_
        intro wv kv3
        go_simp
        go_wp2_with fail
        refine ⟨⟨u + 1, t, by have := HH.out; go_num, rfl, by have := HH.out; omega, htm, htd, by have := HH.out; omega, ?_, H2, kq.trans kv3⟩, ?_⟩
        · have h1 := HU.out
          have h2 := HZ.out
          have h3 := HL.out
          have h4 := HK.out
          intro i hi1 hi2
          exact sym_true s1.out s2.out d0 (h := h) (c := u) (by omega) (by omega) (by rw [h1.2.2.2.2, h2.1, h2.2]; omega) i (by omega) (by omega)
        · have := HH.out; simp [intOf]; omega
    · have hltc : ¬ ((a + s : Nat) : Int) < ((a + t : Nat) : Int) := by omega
      obtain rfl : s = t := by omega
      obtain ⟨u, hu⟩ : ∃ u, h - s = u := ⟨_, rfl⟩
      have hsl : s ≤ la ∧ s ≤ h ∧ u ≤ lb ∧ s + u = h := by have h1 := HL.out; have h2 := HS0.out; omega
      have hdone := sym_done s1.out s2.out d0 (h := h) (s := s) (by have h1 := HL.out; rw [h1.1, h1.2.1]; omega) (by have h1 := HL.out; have h2 := HS0.out; rw [h1.2.1]; omega) (by have h1 := HL.out; omega) hsl.2.1 (by have h1 := HL.out; rw [h1.2.1]; exact H1.out) (by have h1 := HL.out; rw [h1.1]; exact H2.out)
      rw [hu] at hdone
      obtain ⟨A1, hA1⟩ : ∃ A1, A.take s = A1 := ⟨_, rfl⟩
      obtain ⟨A2, hA2⟩ : ∃ A2, A.drop s = A2 := ⟨_, rfl⟩
      obtain ⟨B1, hB1⟩ : ∃ B1, B.take u = B1 := ⟨_, rfl⟩
      obtain ⟨B2, hB2⟩ : ∃ B2, B.drop u = B2 := ⟨_, rfl⟩
      have lA1 : A1.length = s := by have h1 := HL.out; rw [← hA1]; simp; omega
      have lB1 : B1.length = u := by have h1 := HL.out; rw [← hB1]; simp; omega
      have lA2 : s + A2.length = la := by have h1 := HL.out; rw [← hA2]; simp; omega
      have lB2 : u + B2.length = lb := by have h1 := HL.out; rw [← hB2]; simp; omega
      have eA : A = A1 ++ A2 := by rw [← hA1, ← hA2, List.take_append_drop]
      have eB : B = B1 ++ B2 := by rw [← hB1, ← hB2, List.take_append_drop]
      rw [hA1, hA2, hB1, hB2] at hdone
      have hA3 : Hid (Arr kb wr g (P ++ (A ++ (B ++ Q)))) := hAq.out
      have kA : Oth g w wr := (Oth.refl g w).keep kq
      obtain ⟨wv, hwv⟩ : ∃ wv, wv = wr := ⟨_, rfl⟩
      subst hwv
      clear hA H1 H2 EA EB FA FB hA1 hA2 hB1 hB2 hltc
      have hn2 := hn.out
      have hF2 := hF.out
      have IH2 := IH.out
      have s12 := s1.out
      have s22 := s2.out
      have hA32 := hA3.out
      clear hn hF IH s1 s2 hA3
      subst eA
      subst eB
      obtain ⟨st, hst0⟩ : ∃ st, a + s = st := ⟨_, rfl⟩
      obtain ⟨en, hen0⟩ : ∃ en, m + u = en := ⟨_, rfl⟩
      have hL := HL.out
      have een : (md : Int) + (m : Int) - (st : Int) = (en : Int) := by omega
      have hkk : (A1 ++ A2).length + (B1 ++ B2).length = la + lb := by omega
      have hrot := fun (h1 : 1 ≤ A2.length) (h2 : 1 ≤ B1.length) => sym_rot kb g c n st m en P A1 A2 B1 B2 Q wv hn2 hl (by omega) (by omega) (by omega) h1 h2 hA32
      have hone := fun (h1 : 1 ≤ A1.length) (h2 : 1 ≤ B1.length) (wx : World) (hx : Arr kb wx g (P ++ (A1 ++ (B1 ++ (A2 ++ (B2 ++ Q)))))) => sym_one kb g c n _ a st md P A1 A2 B1 B2 Q wx IH2 (by omega) hF2 hn2 (by omega) (by omega) (by omega) h1 h2 s12 s22 hx
      have htwo := fun (h1 : 1 ≤ A2.length) (h2 : 1 ≤ B2.length) (wx : World) (M1 : List It) (hM : M1.length = A1.length + B1.length) (he : eqv kI M1 (A1 ++ B1)) (hx : Arr kb wx g (P ++ (M1 ++ (A2 ++ (B2 ++ Q))))) => sym_two kb g c n _ a md en b P A1 A2 B1 B2 Q M1 wx IH2 (by omega) hF2 hn2 hM he (by omega) (by omega) (by omega) h1 h2 s12 s22 hx
      have HEND : Hid (∀ (M1 M2 : List It) (wx : World), M1.length = A1.length + B1.length → srt kI M1 → eqv kI M1 (A1 ++ B1) → M2.length = A2.length + B2.length → srt kI M2 → eqv kI M2 (A2 ++ B2) → Arr kb wx g ((P ++ M1) ++ (M2 ++ Q)) → ∃ M, M.length = (A1 ++ A2).length + (B1 ++ B2).length ∧ srt kI M ∧ eqv kI M ((A1 ++ A2) ++ (B1 ++ B2)) ∧ Arr kb wx g (P ++ (M ++ Q))) :=
        fun M1 M2 wx a1 a2 a3 a4 a5 a6 a7 => sym_end s12 s22 hdone.1 hdone.2 a1 a2 a3 a4 a5 a6 a7
      have HQ : Hid (srt kI A1 ∧ srt kI A2 ∧ srt kI B1 ∧ srt kI B2) := ⟨(List.pairwise_append.1 s12).1, (List.pairwise_append.1 s12).2.1, (List.pairwise_append.1 s22).1, (List.pairwise_append.1 s22).2.1⟩
      have HT : Hid (a + s = st ∧ m + u = en ∧ A1.length = s ∧ B1.length = u ∧ s + A2.length = la ∧ u + B2.length = lb ∧ s + u = h) := ⟨hst0, hen0, lA1, lB1, lA2, lB2, hsl.2.2.2⟩
      have HR : Hid (Arr kb wv g (P ++ ((A1 ++ A2) ++ ((B1 ++ B2) ++ Q)))) := hA32
      have hstn : st ≤ m := by omega
      have henb : en ≤ b := by omega
      rw [hst0]
      clear hdone hst0 hen0 lA1 lB1 lA2 lB2 hL hkk hn2 hF2 IH2 s12 s22 hA32 hu hlt htm htd hst hs0 hsl
      unfold SymP at hone htwo
      have hR12 : ∀ wx, Arr kb wx g (P ++ (A1 ++ (B1 ++ (A2 ++ (B2 ++ Q))))) → Arr kb wx g (P ++ ((A1 ++ B1) ++ (A2 ++ (B2 ++ Q)))) := fun wx hx => by simpa only [List.append_assoc] using hx
      have hR23 : ∀ (wx : World) (M1 : List It), Arr kb wx g (P ++ (M1 ++ (A2 ++ (B2 ++ Q)))) → Arr kb wx g ((P ++ M1) ++ ((A2 ++ B2) ++ Q)) := fun wx M1 hx => by simpa only [List.append_assoc] using hx
      by_cases bp : s < la
      · have bp2 := bp
        by_cases bq : 0 < u
        · have bq2 := bq
          by_cases bx : 0 < s
          · have bx2 := bx
            by_cases bY : u < lb
            · have bY2 := bY
              have f1 : (st : Int) < (m : Int) := by have := HT.out; have := HL.out; omega
              have f1n : st < m := by have := HT.out; have := HL.out; omega
              have f2 : (m : Int) < (en : Int) := by have := HT.out; have := HL.out; omega
              have f2n : m < en := by have := HT.out; have := HL.out; omega
              have f3 : (a : Int) < (st : Int) := by have := HT.out; have := HL.out; omega
              have f3n : a < st := by have := HT.out; have := HL.out; omega
              have f4 : (st : Int) < (md : Int) := by have := HT.out; have := HL.out; omega
              have f4n : st < md := by have := HT.out; have := HL.out; omega
              have f5 : (md : Int) < (en : Int) := by have := HT.out; have := HL.out; omega
              have f5n : md < en := by have := HT.out; have := HL.out; omega
              have f6 : (en : Int) < (b : Int) := by have := HT.out; have := HL.out; omega
              have f6n : en < b := by have := HT.out; have := HL.out; omega
              have hrot := hrot (by have := HT.out; have := HL.out; omega) (by have := HT.out; have := HL.out; omega)
              have hone := hone (by have := HT.out; have := HL.out; omega) (by have := HT.out; have := HL.out; omega)
              have htwo := htwo (by have := HT.out; have := HL.out; omega) (by have := HT.out; have := HL.out; omega)
              go_wp2_with (first | (go_at_call 117; refine hrot.mono ?_; rintro e w1 ⟨⟨v, rfl⟩, hR1, k1⟩; replace hR1 : Hid (Arr kb w1 g (P ++ (A1 ++ (B1 ++ (A2 ++ (B2 ++ Q)))))) := hR1; clear hrot) | (go_at_call 106; refine (hone w1 hR1.out).mono ?_; rintro e w2 ⟨⟨v, rfl⟩, ⟨M1, m1, m2, m3, m4⟩, k2⟩; replace m1 : Hid (M1.length = A1.length + B1.length) := m1; replace m2 : Hid (srt kI M1) := m2; replace m3 : Hid (eqv kI M1 (A1 ++ B1)) := m3; replace m4 : Hid (Arr kb w2 g (P ++ (M1 ++ (A2 ++ (B2 ++ Q))))) := m4; clear hone) | (go_at_call 106; refine (htwo w2 M1 m1.out m3.out m4.out).mono ?_; rintro e w3 ⟨⟨v, rfl⟩, ⟨M2, n1, n2, n3, n4⟩, k3⟩; replace n1 : Hid (M2.length = A2.length + B2.length) := n1; replace n2 : Hid (srt kI M2) := n2; replace n3 : Hid (eqv kI M2 (A2 ++ B2)) := n3; replace n4 : Hid (Arr kb w3 g ((P ++ M1) ++ (M2 ++ Q))) := n4; clear htwo))
              go_end0
              have hz := HEND.out M1 M2 _ m1.out m2.out m3.out n1.out n2.out n3.out n4.out
              exact ⟨⟨_, rfl⟩, by first | exact hz | simpa only [List.length_append, List.append_assoc] using hz, (((kA.trans k1).trans k2).trans k3)⟩
            · have bY2 := bY
              have f1 : (st : Int) < (m : Int) := by have := HT.out; have := HL.out; omega
              have f1n : st < m := by have := HT.out; have := HL.out; omega
              have f2 : (m : Int) < (en : Int) := by have := HT.out; have := HL.out; omega
              have f2n : m < en := by have := HT.out; have := HL.out; omega
              have f3 : (a : Int) < (st : Int) := by have := HT.out; have := HL.out; omega
              have f3n : a < st := by have := HT.out; have := HL.out; omega
              have f4 : (st : Int) < (md : Int) := by have := HT.out; have := HL.out; omega
              have f4n : st < md := by have := HT.out; have := HL.out; omega
              have f5 : (md : Int) < (en : Int) := by have := HT.out; have := HL.out; omega
              have f5n : md < en := by have := HT.out; have := HL.out; omega
              have f6 : ¬ (en : Int) < (b : Int) := by have := HT.out; have := HL.out; omega
              have f6n : ¬ en < b := by have := HT.out; have := HL.out; omega
              have hrot := hrot (by have := HT.out; have := HL.out; omega) (by have := HT.out; have := HL.out; omega)
              have hone := hone (by have := HT.out; have := HL.out; omega) (by have := HT.out; have := HL.out; omega)
              go_wp2_with (first | (go_at_call 117; refine hrot.mono ?_; rintro e w1 ⟨⟨v, rfl⟩, hR1, k1⟩; replace hR1 : Hid (Arr kb w1 g (P ++ (A1 ++ (B1 ++ (A2 ++ (B2 ++ Q)))))) := hR1; clear hrot) | (go_at_call 106; refine (hone w1 hR1.out).mono ?_; rintro e w2 ⟨⟨v, rfl⟩, ⟨M1, m1, m2, m3, m4⟩, k2⟩; replace m1 : Hid (M1.length = A1.length + B1.length) := m1; replace m2 : Hid (srt kI M1) := m2; replace m3 : Hid (eqv kI M1 (A1 ++ B1)) := m3; replace m4 : Hid (Arr kb w2 g (P ++ (M1 ++ (A2 ++ (B2 ++ Q))))) := m4; clear hone))
              go_end0
              have hz := HEND.out M1 (A2 ++ B2) _ m1.out m2.out m3.out (by simp) (srt_app (by have h1 := HT.out; have h2 := HL.out; exact .inr (List.eq_nil_of_length_eq_zero (by omega))) HQ.out.2.1 HQ.out.2.2.2) (eqv.refl _) (hR23 _ _ m4.out)
              exact ⟨⟨_, rfl⟩, by first | exact hz | simpa only [List.length_append, List.append_assoc] using hz, ((kA.trans k1).trans k2)⟩
          · have bx2 := bx
            by_cases bY : u < lb
            · have bY2 := bY
              have f1 : (st : Int) < (m : Int) := by have := HT.out; have := HL.out; omega
              have f1n : st < m := by have := HT.out; have := HL.out; omega
              have f2 : (m : Int) < (en : Int) := by have := HT.out; have := HL.out; omega
              have f2n : m < en := by have := HT.out; have := HL.out; omega
              have f3 : ¬ (a : Int) < (st : Int) := by have := HT.out; have := HL.out; omega
              have f3n : ¬ a < st := by have := HT.out; have := HL.out; omega
              have f4 : (st : Int) < (md : Int) := by have := HT.out; have := HL.out; omega
              have f4n : st < md := by have := HT.out; have := HL.out; omega
              have f5 : (md : Int) < (en : Int) := by have := HT.out; have := HL.out; omega
              have f5n : md < en := by have := HT.out; have := HL.out; omega
              have f6 : (en : Int) < (b : Int) := by have := HT.out; have := HL.out; omega
              have f6n : en < b := by have := HT.out; have := HL.out; omega
              have hrot := hrot (by have := HT.out; have := HL.out; omega) (by have := HT.out; have := HL.out; omega)
              have htwo := htwo (by have := HT.out; have := HL.out; omega) (by have := HT.out; have := HL.out; omega)
              go_wp2_with (first | (go_at_call 117; refine hrot.mono ?_; rintro e w1 ⟨⟨v, rfl⟩, hR1, k1⟩; replace hR1 : Hid (Arr kb w1 g (P ++ (A1 ++ (B1 ++ (A2 ++ (B2 ++ Q)))))) := hR1; clear hrot) | (go_at_call 106; refine (htwo w1 (A1 ++ B1) (by simp) (eqv.refl _) (hR12 _ hR1.out)).mono ?_; rintro e w3 ⟨⟨v, rfl⟩, ⟨M2, n1, n2, n3, n4⟩, k3⟩; replace n1 : Hid (M2.length = A2.length + B2.length) := n1; replace n2 : Hid (srt kI M2) := n2; replace n3 : Hid (eqv kI M2 (A2 ++ B2)) := n3; replace n4 : Hid (Arr kb w3 g ((P ++ (A1 ++ B1)) ++ (M2 ++ Q))) := n4; clear htwo))
              go_end0
              have hz := HEND.out (A1 ++ B1) M2 _ (by simp) (srt_app (by have h1 := HT.out; have h2 := HL.out; exact .inl (List.eq_nil_of_length_eq_zero (by omega))) HQ.out.1 HQ.out.2.2.1) (eqv.refl _) n1.out n2.out n3.out n4.out
              exact ⟨⟨_, rfl⟩, by first | exact hz | simpa only [List.length_append, List.append_assoc] using hz, ((kA.trans k1).trans k3)⟩
            · have bY2 := bY
              have f1 : (st : Int) < (m : Int) := by have := HT.out; have := HL.out; omega
              have f1n : st < m := by have := HT.out; have := HL.out; omega
              have f2 : (m : Int) < (en : Int) := by have := HT.out; have := HL.out; omega
              have f2n : m < en := by have := HT.out; have := HL.out; omega
              have f3 : ¬ (a : Int) < (st : Int) := by have := HT.out; have := HL.out; omega
              have f3n : ¬ a < st := by have := HT.out; have := HL.out; omega
              have f4 : (st : Int) < (md : Int) := by have := HT.out; have := HL.out; omega
              have f4n : st < md := by have := HT.out; have := HL.out; omega
              have f5 : (md : Int) < (en : Int) := by have := HT.out; have := HL.out; omega
              have f5n : md < en := by have := HT.out; have := HL.out; omega
              have f6 : ¬ (en : Int) < (b : Int) := by have := HT.out; have := HL.out; omega
              have f6n : ¬ en < b := by have := HT.out; have := HL.out; omega
              have hrot := hrot (by have := HT.out; have := HL.out; omega) (by have := HT.out; have := HL.out; omega)
              go_wp2_with (first | (go_at_call 117; refine hrot.mono ?_; rintro e w1 ⟨⟨v, rfl⟩, hR1, k1⟩; replace hR1 : Hid (Arr kb w1 g (P ++ (A1 ++ (B1 ++ (A2 ++ (B2 ++ Q)))))) := hR1; clear hrot))
              go_end0
              have hz := HEND.out (A1 ++ B1) (A2 ++ B2) _ (by simp) (srt_app (by have h1 := HT.out; have h2 := HL.out; exact .inl (List.eq_nil_of_length_eq_zero (by omega))) HQ.out.1 HQ.out.2.2.1) (eqv.refl _) (by simp) (srt_app (by have h1 := HT.out; have h2 := HL.out; exact .inr (List.eq_nil_of_length_eq_zero (by omega))) HQ.out.2.1 HQ.out.2.2.2) (eqv.refl _) (hR23 _ _ (hR12 _ hR1.out))
              exact ⟨⟨_, rfl⟩, by first | exact hz | simpa only [List.length_append, List.append_assoc] using hz, (kA.trans k1)⟩
        · have bq2 := bq
          by_cases bx : 0 < s
          · have bx2 := bx
            by_cases bY : u < lb
            · have bY2 := bY
              have f1 : (st : Int) < (m : Int) := by have := HT.out; have := HL.out; omega
              have f1n : st < m := by have := HT.out; have := HL.out; omega
              have f2 : ¬ (m : Int) < (en : Int) := by have := HT.out; have := HL.out; omega
              have f2n : ¬ m < en := by have := HT.out; have := HL.out; omega
              have f3 : (a : Int) < (st : Int) := by have := HT.out; have := HL.out; omega
              have f3n : a < st := by have := HT.out; have := HL.out; omega
              have f4 : ¬ (st : Int) < (md : Int) := by have := HT.out; have := HL.out; omega
              have f4n : ¬ st < md := by have := HT.out; have := HL.out; omega
              have f5 : (md : Int) < (en : Int) := by have := HT.out; have := HL.out; omega
              have f5n : md < en := by have := HT.out; have := HL.out; omega
              have f6 : (en : Int) < (b : Int) := by have := HT.out; have := HL.out; omega
              have f6n : en < b := by have := HT.out; have := HL.out; omega
              have hR1 : Hid (Arr kb wv g (P ++ (A1 ++ (B1 ++ (A2 ++ (B2 ++ Q)))))) := sym_norot (by have h1 := HT.out; have h2 := HL.out; exact .inr (List.eq_nil_of_length_eq_zero (by omega))) HR.out
              have htwo := htwo (by have := HT.out; have := HL.out; omega) (by have := HT.out; have := HL.out; omega)
              go_wp2_with (first | (go_at_call 106; refine (htwo wv (A1 ++ B1) (by simp) (eqv.refl _) (hR12 _ hR1.out)).mono ?_; rintro e w3 ⟨⟨v, rfl⟩, ⟨M2, n1, n2, n3, n4⟩, k3⟩; replace n1 : Hid (M2.length = A2.length + B2.length) := n1; replace n2 : Hid (srt kI M2) := n2; replace n3 : Hid (eqv kI M2 (A2 ++ B2)) := n3; replace n4 : Hid (Arr kb w3 g ((P ++ (A1 ++ B1)) ++ (M2 ++ Q))) := n4; clear htwo))
              go_end0
              have hz := HEND.out (A1 ++ B1) M2 _ (by simp) (srt_app (by have h1 := HT.out; have h2 := HL.out; exact .inr (List.eq_nil_of_length_eq_zero (by omega))) HQ.out.1 HQ.out.2.2.1) (eqv.refl _) n1.out n2.out n3.out n4.out
              exact ⟨⟨_, rfl⟩, by first | exact hz | simpa only [List.length_append, List.append_assoc] using hz, (kA.trans k3)⟩
            · have bY2 := bY
              have f1 : (st : Int) < (m : Int) := by have := HT.out; have := HL.out; omega
              have f1n : st < m := by have := HT.out; have := HL.out; omega
              have f2 : ¬ (m : Int) < (en : Int) := by have := HT.out; have := HL.out; omega
              have f2n : ¬ m < en := by have := HT.out; have := HL.out; omega
              have f3 : (a : Int) < (st : Int) := by have := HT.out; have := HL.out; omega
              have f3n : a < st := by have := HT.out; have := HL.out; omega
              have f4 : ¬ (st : Int) < (md : Int) := by have := HT.out; have := HL.out; omega
              have f4n : ¬ st < md := by have := HT.out; have := HL.out; omega
              have f5 : (md : Int) < (en : Int) := by have := HT.out; have := HL.out; omega
              have f5n : md < en := by have := HT.out; have := HL.out; omega
              have f6 : ¬ (en : Int) < (b : Int) := by have := HT.out; have := HL.out; omega
              have f6n : ¬ en < b := by have := HT.out; have := HL.out; omega
              have hR1 : Hid (Arr kb wv g (P ++ (A1 ++ (B1 ++ (A2 ++ (B2 ++ Q)))))) := sym_norot (by have h1 := HT.out; have h2 := HL.out; exact .inr (List.eq_nil_of_length_eq_zero (by omega))) HR.out
              go_wp2_with (fail)
              go_end0
              have hz := HEND.out (A1 ++ B1) (A2 ++ B2) _ (by simp) (srt_app (by have h1 := HT.out; have h2 := HL.out; exact .inr (List.eq_nil_of_length_eq_zero (by omega))) HQ.out.1 HQ.out.2.2.1) (eqv.refl _) (by simp) (srt_app (by have h1 := HT.out; have h2 := HL.out; exact .inr (List.eq_nil_of_length_eq_zero (by omega))) HQ.out.2.1 HQ.out.2.2.2) (eqv.refl _) (hR23 _ _ (hR12 _ hR1.out))
              exact ⟨⟨_, rfl⟩, by first | exact hz | simpa only [List.length_append, List.append_assoc] using hz, kA⟩
          · have bx2 := bx
            exfalso; have := HT.out; have := HL.out; omega
      · have bp2 := bp
        exfalso; have := HT.out; have := HMD.out; omega
end Go.Proofs.Ytaogjiffnebnkaa.Cu
set_option linter.unusedVariables false
set_option linter.unusedSimpArgs false
namespace Go.Proofs.Ytaogjiffnebnkaa.Cu
open Go.RowKit
set_option maxRecDepth 100000 in
set_option maxHeartbeats 4000000 in
theorem sym_low (kb g c n a m b : Nat) (P A B Q : List It) (w : World) (IH : SymI kb g c n (A.length + B.length)) (hF : F64 (P ++ (A ++ (B ++ Q)))) (hn : (P ++ (A ++ (B ++ Q))).length = n) (hl : n ≤ 17592186044416) (ha : P.length = a) (hm : a + A.length = m) (hb : m + B.length = b) (hA2 : 2 ≤ A.length) (hB2 : 2 ≤ B.length) (hmd : A.length ≤ (A.length + B.length) / 2) (s1 : srt kI A) (s2 : srt kI B) (hA : Arr kb w g (P ++ (A ++ (B ++ Q)))) : SymP kb g c n a m b P A B Q w := by
  unfold SymP
  obtain ⟨la, hla⟩ : ∃ la, A.length = la := ⟨_, rfl⟩
  obtain ⟨lb, hlb⟩ : ∃ lb, B.length = lb := ⟨_, rfl⟩
  rw [hla, hlb] at hmd
  obtain ⟨h, hh⟩ : ∃ h, (la + lb) / 2 = h := ⟨_, rfl⟩
  rw [hh] at hmd
  have HN : Hid (P.length + la + lb + Q.length = n) := by show _ = _; rw [← hn]; simp; omega
  obtain ⟨md, hmd0⟩ : ∃ md, a + h = md := ⟨_, rfl⟩
  have hmid : ((a : Int) + (b : Int)) / 2 = (md : Int) := by omega
  have HL : Hid (A.length = la ∧ B.length = lb ∧ P.length = a ∧ a + la = m ∧ m + lb = b ∧ a + h = md ∧ h = (la + lb) / 2 ∧ 2 ≤ la ∧ 2 ≤ lb) := ⟨hla, hlb, ha, by omega, by omega, hmd0, hh.symm, by omega, by omega⟩
  have hd0 : ((m : Int) - (a : Int) == 1) = false := by rw [beq_eq_false_iff_ne]; omega
  have hd1 : ((b : Int) - (m : Int) == 1) = false := by rw [beq_eq_false_iff_ne]; omega
  have hbn : b ≤ n := by have := HN.out; omega
  have hmb : m < b := by omega
  have ham : a < m := by omega
  have hmdb : md ≤ b := by omega
  obtain ⟨s0, hs0⟩ : ∃ s0, h - lb = s0 := ⟨_, rfl⟩
  have cgt : decide ((m : Int) > (md : Int)) = false := decide_eq_false (by omega)
  have cgtn : ¬ md < m := by omega
  have EA : Hid (∀ i, i < la → (P ++ (A ++ (B ++ Q))).getD (a + i) d0 = A.getD i d0) := by
    intro i hi
    rw [getD_right d0 P _ (by omega), show a + i - P.length = i by omega, getD_left d0 _ _ (by omega)]
  have EB : Hid (∀ i, i < lb → (P ++ (A ++ (B ++ Q))).getD (m + i) d0 = B.getD i d0) := by
    intro i hi
    rw [getD_right d0 P _ (by omega), getD_right d0 A _ (by omega), show m + i - P.length - A.length = i by omega, getD_left d0 _ _ (by omega)]
  have FA : Hid (∀ i, i < la → F64 [A.getD i d0]) := by
    intro i hi q hq
    have hi2 : i < A.length := by omega
    rw [List.mem_singleton.1 hq]
    exact hF _ (by simp [List.getD, hi2])
  have FB : Hid (∀ i, i < lb → F64 [B.getD i d0]) := by
    intro i hi q hq
    have hi2 : i < B.length := by omega
    rw [List.mem_singleton.1 hq]
    exact hF _ (by simp [List.getD, hi2])
  replace hn : Hid _ := hn
  replace hF : Hid _ := hF
  replace IH : Hid _ := IH
  replace hA : Hid (Arr kb w g (P ++ (A ++ (B ++ Q)))) := hA
  replace s1 : Hid _ := s1
  replace s2 : Hid _ := s2
  have HS0 : Hid (h - lb = s0) := hs0
  have HMD : Hid (la ≤ h) := hmd
  clear ha hm hb hA2 hB2 hla hlb hh hmd0 hs0 hmd
  go_enter Try.func106, Try.ntmps106
  go_wp2_with fail
  go_loopw [20, 21] (fun iv jv wr => ∃ s t : Nat, iv = .int .i64 ((a + s : Nat) : Int) ∧ jv = .int .i64 ((a + t : Nat) : Int) ∧ s ≤ t ∧ a + t ≤ m ∧ a + t ≤ md ∧ s0 ≤ s ∧ Hid (∀ i, h - lb ≤ i → i < s → kI (A.getD i d0) ≤ kI (B.getD (h - 1 - i) d0)) ∧ Hid (∀ i, t ≤ i → i < la → i < h → kI (B.getD (h - 1 - i) d0) < kI (A.getD i d0)) ∧ Keep w wr) (fun iv jv _ => (intOf jv).toNat - (intOf iv).toNat)
  case atStart =>
    have h1 := HL.out
    have h2 := HS0.out
    have h3 := HMD.out
    exact ⟨0, la, rfl, by rw [h1.2.2.2.1], by omega, by omega, by omega, by omega, fun i q1 q2 => by omega, fun i q1 q2 q3 => by omega, Keep.refl w⟩
  case round =>
    obtain ⟨s, t, rfl, rfl, hst, htm, htd, hs0, H1, H2, kq⟩ := hrel
    have hAq : Hid (Arr kb wr g (P ++ (A ++ (B ++ Q)))) := hA.out.keep kq
    by_cases hlt : s < t
    · have hltc : ((a + s : Nat) : Int) < ((a + t : Nat) : Int) := by omega
      obtain ⟨u, hu⟩ : ∃ u, (s + t) / 2 = u := ⟨_, rfl⟩
      obtain ⟨cc, hc0⟩ : ∃ cc, a + u = cc := ⟨_, rfl⟩
      have hcc : ((a : Int) + (s : Int) + ((a : Int) + (t : Int))) / 2 = (cc : Int) := by omega
      have HH : Hid (a + u = cc ∧ s ≤ u ∧ u < t) := ⟨hc0, by omega, by omega⟩
      obtain ⟨v, hv⟩ : ∃ v, h - 1 - u = v := ⟨_, rfl⟩
      have hvb : v < lb ∧ u < la ∧ u < h ∧ v + u + 1 = h := by have h1 := HL.out; have h2 := HS0.out; omega
      obtain ⟨pc, hpc⟩ : ∃ pc, m + v = pc := ⟨_, rfl⟩
      have hpp : (md : Int) + (m : Int) - 1 - (cc : Int) = (pc : Int) := by have h1 := HL.out; omega
      have hccn : (cc : Int) < (n : Int) := by omega
      have hcn : cc < n := by omega
      have hpn : pc < n := by have h1 := HL.out; omega
      have hpcn : (pc : Int) < (n : Int) := by omega
      have hwp : IntKind.i64.wrap (pc : Int) = (pc : Int) := by rw [IntWalk.i64_left]; exact IntWalk.wrap64_in _ (by omega)
      have hwc : IntKind.i64.wrap (cc : Int) = (cc : Int) := by rw [IntWalk.i64_left]; exact IntWalk.wrap64_in _ (by omega)
      have zk := hAq.out.box
      have cm := Arr.cell hAq.out (j := cc) (by rw [hn.out]; omega)
      have ch := Arr.cell hAq.out (j := pc) (by rw [hn.out]; omega)
      rw [← hc0, EA.out u hvb.2.1, hc0] at cm
      rw [← hpc, EB.out v hvb.1, hpc] at ch
      have hCmp := fun (wx : World) (hz : wx.cell? ⟨kb, 0, none⟩ = some (.func (.func 54) #[] #[])) => Compare_any kb (B.getD v d0) (A.getD u d0) wx (FB.out v hvb.1) (FA.out u hvb.2.1) hz
      have hcl := cmpI_lt (B.getD v d0) (A.getD u d0)
      have HU : Hid (v < lb ∧ u < la ∧ u < h ∧ v + u + 1 = h ∧ h - 1 - u = v) := ⟨hvb.1, hvb.2.1, hvb.2.2.1, hvb.2.2.2, hv⟩
      obtain ⟨z, hz⟩ : ∃ z, A.getD u d0 = z := ⟨_, rfl⟩
      obtain ⟨y, hy⟩ : ∃ y, B.getD v d0 = y := ⟨_, rfl⟩
      have HZ : Hid (A.getD u d0 = z ∧ B.getD v d0 = y) := ⟨hz, hy⟩
      rw [hz] at cm hCmp hcl
      rw [hy] at ch hCmp hcl
      generalize cmpQ (kI y) (kI z) = r at hCmp hcl
      obtain ⟨cx0, cx1, cx2, cx3, cx4, gcx0, gcx1, gcx2, gcx3, gcx4⟩ := cm
      obtain ⟨cy0, cy1, cy2, cy3, cy4, gcy0, gcy1, gcy2, gcy3, gcy4⟩ := ch
      clear hu hc0 hvb hz hy hpc hv
      by_cases hk : kI y < kI z
      · rw [decide_eq_true hk] at hcl
        have HK : Hid (kI y < kI z) := hk
        clear hk
        go_wp2_with fail
        refine region_keepQ (Keep.refl wr) (by kernel_rfl) (by kernel_rfl) ?_
        repeat
          with_reducible refine wpQuiet_step ?_
          intro K hK
          go_simp
          first
            | (with_reducible refine hK _ ?_; clear hK K)
            | (with_reducible refine (if_neg ?_).mpr (hK _ ?_)
               · decide
               clear hK K)
            | (apply Exists.intro
               with_reducible refine ⟨fun wq hq => ?_, hK _ ?_⟩
               · first
                   | with_reducible rfl
                   | with_reducible exact (hCmp wq (hq.cell zk)).mono fun e w'' h => ⟨h.1, hq.trans h.2⟩
                   | (have qcx0 := hq.cell cx0; have qcx1 := hq.cell cx1; have qcx2 := hq.cell cx2; have qcx3 := hq.cell cx3; have qcx4 := hq.cell cx4; have qcy0 := hq.cell cy0; have qcy1 := hq.cell cy1; have qcy2 := hq.cell cy2; have qcy3 := hq.cell cy3; have qcy4 := hq.cell cy4; go_simp; with_reducible rfl)
               clear hK K)
        with_reducible refine wpQuiet_nil ?_
        intro wv kv3
        go_simp
        go_wp2_with fail
        refine ⟨⟨s, u, rfl, by have := HH.out; go_num, by have := HH.out; omega, by have := HH.out; omega, by have := HH.out; omega, hs0, H1, ?_, kq.trans kv3⟩, ?_⟩
        · have h1 := HU.out
          have h2 := HZ.out
          have h3 := HL.out
          have h4 := HK.out
          rw [← h3.1]
          exact sym_false s1.out s2.out d0 (h := h) (c := u) (by omega) (by rw [h1.2.2.2.2, h2.1, h2.2]; exact h4)
        · have := HH.out; simp [intOf]; omega
      · rw [decide_eq_false hk] at hcl
        have HK : Hid (¬ kI y < kI z) := hk
        clear hk
        go_wp2_with fail
        refine region_keepQ (Keep.refl wr) (by kernel_rfl) (by kernel_rfl) ?_
        repeat
          with_reducible refine wpQuiet_step ?_
          intro K hK
          go_simp
          first
            | (with_reducible refine hK _ ?_; clear hK K)
            | (with_reducible refine (if_neg ?_).mpr (hK _ ?_)
               · decide
               clear hK K)
            | (apply Exists.intro
               with_reducible refine ⟨fun wq hq => ?_, hK _ ?_⟩
               · first
                   | with_reducible rfl
                   | with_reducible exact (hCmp wq (hq.cell zk)).mono fun e w'' h => ⟨h.1, hq.trans h.2⟩
                   | (have qcx0 := hq.cell cx0; have qcx1 := hq.cell cx1; have qcx2 := hq.cell cx2; have qcx3 := hq.cell cx3; have qcx4 := hq.cell cx4; have qcy0 := hq.cell cy0; have qcy1 := hq.cell cy1; have qcy2 := hq.cell cy2; have qcy3 := hq.cell cy3; have qcy4 := hq.cell cy4; go_simp; with_reducible rfl)
               clear hK K)
        with_reducible refine wpQuiet_nil ?_
        intro wv kv3
        go_simp
        go_wp2_with fail
        refine ⟨⟨u + 1, t, by have := HH.out; go_num, rfl, by have := HH.out; omega, htm, htd, by have := HH.out; omega, ?_, H2, kq.trans kv3⟩, ?_⟩
        · have h1 := HU.out
          have h2 := HZ.out
          have h3 := HL.out
          have h4 := HK.out
          intro i hi1 hi2
          exact sym_true s1.out s2.out d0 (h := h) (c := u) (by omega) (by omega) (by rw [h1.2.2.2.2, h2.1, h2.2]; omega) i (by omega) (by omega)
        · have := HH.out; simp [intOf]; omega
    · have hltc : ¬ ((a + s : Nat) : Int) < ((a + t : Nat) : Int) := by omega
      obtain rfl : s = t := by omega
      obtain ⟨u, hu⟩ : ∃ u, h - s = u := ⟨_, rfl⟩
      have hsl : s ≤ la ∧ s ≤ h ∧ u ≤ lb ∧ s + u = h := by have h1 := HL.out; have h2 := HS0.out; omega
      have hdone := sym_done s1.out s2.out d0 (h := h) (s := s) (by have h1 := HL.out; rw [h1.1, h1.2.1]; omega) (by have h1 := HL.out; have h2 := HS0.out; rw [h1.2.1]; omega) (by have h1 := HL.out; omega) hsl.2.1 (by have h1 := HL.out; rw [h1.2.1]; exact H1.out) (by have h1 := HL.out; rw [h1.1]; exact H2.out)
      rw [hu] at hdone
      obtain ⟨A1, hA1⟩ : ∃ A1, A.take s = A1 := ⟨_, rfl⟩
      obtain ⟨A2, hA2⟩ : ∃ A2, A.drop s = A2 := ⟨_, rfl⟩
      obtain ⟨B1, hB1⟩ : ∃ B1, B.take u = B1 := ⟨_, rfl⟩
      obtain ⟨B2, hB2⟩ : ∃ B2, B.drop u = B2 := ⟨_, rfl⟩
      have lA1 : A1.length = s := by have h1 := HL.out; rw [← hA1]; simp; omega
      have lB1 : B1.length = u := by have h1 := HL.out; rw [← hB1]; simp; omega
      have lA2 : s + A2.length = la := by have h1 := HL.out; rw [← hA2]; simp; omega
      have lB2 : u + B2.length = lb := by have h1 := HL.out; rw [← hB2]; simp; omega
      have eA : A = A1 ++ A2 := by rw [← hA1, ← hA2, List.take_append_drop]
      have eB : B = B1 ++ B2 := by rw [← hB1, ← hB2, List.take_append_drop]
      rw [hA1, hA2, hB1, hB2] at hdone
      have hA3 : Hid (Arr kb wr g (P ++ (A ++ (B ++ Q)))) := hAq.out
      have kA : Oth g w wr := (Oth.refl g w).keep kq
      obtain ⟨wv, hwv⟩ : ∃ wv, wv = wr := ⟨_, rfl⟩
      subst hwv
      clear hA H1 H2 EA EB FA FB hA1 hA2 hB1 hB2 hltc
      have hn2 := hn.out
      have hF2 := hF.out
      have IH2 := IH.out
      have s12 := s1.out
      have s22 := s2.out
      have hA32 := hA3.out
      clear hn hF IH s1 s2 hA3
      subst eA
      subst eB
      obtain ⟨st, hst0⟩ : ∃ st, a + s = st := ⟨_, rfl⟩
      obtain ⟨en, hen0⟩ : ∃ en, m + u = en := ⟨_, rfl⟩
      have hL := HL.out
      have een : (md : Int) + (m : Int) - (st : Int) = (en : Int) := by omega
      have hkk : (A1 ++ A2).length + (B1 ++ B2).length = la + lb := by omega
      have hrot := fun (h1 : 1 ≤ A2.length) (h2 : 1 ≤ B1.length) => sym_rot kb g c n st m en P A1 A2 B1 B2 Q wv hn2 hl (by omega) (by omega) (by omega) h1 h2 hA32
      have hone := fun (h1 : 1 ≤ A1.length) (h2 : 1 ≤ B1.length) (wx : World) (hx : Arr kb wx g (P ++ (A1 ++ (B1 ++ (A2 ++ (B2 ++ Q)))))) => sym_one kb g c n _ a st md P A1 A2 B1 B2 Q wx IH2 (by omega) hF2 hn2 (by omega) (by omega) (by omega) h1 h2 s12 s22 hx
      have htwo := fun (h1 : 1 ≤ A2.length) (h2 : 1 ≤ B2.length) (wx : World) (M1 : List It) (hM : M1.length = A1.length + B1.length) (he : eqv kI M1 (A1 ++ B1)) (hx : Arr kb wx g (P ++ (M1 ++ (A2 ++ (B2 ++ Q))))) => sym_two kb g c n _ a md en b P A1 A2 B1 B2 Q M1 wx IH2 (by omega) hF2 hn2 hM he (by omega) (by omega) (by omega) h1 h2 s12 s22 hx
      have HEND : Hid (∀ (M1 M2 : List It) (wx : World), M1.length = A1.length + B1.length → srt kI M1 → eqv kI M1 (A1 ++ B1) → M2.length = A2.length + B2.length → srt kI M2 → eqv kI M2 (A2 ++ B2) → Arr kb wx g ((P ++ M1) ++ (M2 ++ Q)) → ∃ M, M.length = (A1 ++ A2).length + (B1 ++ B2).length ∧ srt kI M ∧ eqv kI M ((A1 ++ A2) ++ (B1 ++ B2)) ∧ Arr kb wx g (P ++ (M ++ Q))) :=
        fun M1 M2 wx a1 a2 a3 a4 a5 a6 a7 => sym_end s12 s22 hdone.1 hdone.2 a1 a2 a3 a4 a5 a6 a7
      have HQ : Hid (srt kI A1 ∧ srt kI A2 ∧ srt kI B1 ∧ srt kI B2) := ⟨(List.pairwise_append.1 s12).1, (List.pairwise_append.1 s12).2.1, (List.pairwise_append.1 s22).1, (List.pairwise_append.1 s22).2.1⟩
      have HT : Hid (a + s = st ∧ m + u = en ∧ A1.length = s ∧ B1.length = u ∧ s + A2.length = la ∧ u + B2.length = lb ∧ s + u = h) := ⟨hst0, hen0, lA1, lB1, lA2, lB2, hsl.2.2.2⟩
      have HR : Hid (Arr kb wv g (P ++ ((A1 ++ A2) ++ ((B1 ++ B2) ++ Q)))) := hA32
      have hstn : st ≤ m := by omega
      have henb : en ≤ b := by omega
      rw [hst0]
      clear hdone hst0 hen0 lA1 lB1 lA2 lB2 hL hkk hn2 hF2 IH2 s12 s22 hA32 hu hlt htm htd hst hs0 hsl
      unfold SymP at hone htwo
      have hR12 : ∀ wx, Arr kb wx g (P ++ (A1 ++ (B1 ++ (A2 ++ (B2 ++ Q))))) → Arr kb wx g (P ++ ((A1 ++ B1) ++ (A2 ++ (B2 ++ Q)))) := fun wx hx => by simpa only [List.append_assoc] using hx
      have hR23 : ∀ (wx : World) (M1 : List It), Arr kb wx g (P ++ (M1 ++ (A2 ++ (B2 ++ Q)))) → Arr kb wx g ((P ++ M1) ++ ((A2 ++ B2) ++ Q)) := fun wx M1 hx => by simpa only [List.append_assoc] using hx
      by_cases bp : s < la
      · have bp2 := bp
        by_cases bq : 0 < u
        · have bq2 := bq
          by_cases bx : 0 < s
          · have bx2 := bx
            by_cases bY : u < lb
            · have bY2 := bY
              have f1 : (st : Int) < (m : Int) := by have := HT.out; have := HL.out; omega
              have f1n : st < m := by have := HT.out; have := HL.out; omega
              have f2 : (m : Int) < (en : Int) := by have := HT.out; have := HL.out; omega
              have f2n : m < en := by have := HT.out; have := HL.out; omega
              have f3 : (a : Int) < (st : Int) := by have := HT.out; have := HL.out; omega
              have f3n : a < st := by have := HT.out; have := HL.out; omega
              have f4 : (st : Int) < (md : Int) := by have := HT.out; have := HL.out; omega
              have f4n : st < md := by have := HT.out; have := HL.out; omega
              have f5 : (md : Int) < (en : Int) := by have := HT.out; have := HL.out; omega
              have f5n : md < en := by have := HT.out; have := HL.out; omega
              have f6 : (en : Int) < (b : Int) := by have := HT.out; have := HL.out; omega
              have f6n : en < b := by have := HT.out; have := HL.out; omega
              have hrot := hrot (by have := HT.out; have := HL.out; omega) (by have := HT.out; have := HL.out; omega)
              have hone := hone (by have := HT.out; have := HL.out; omega) (by have := HT.out; have := HL.out; omega)
              have htwo := htwo (by have := HT.out; have := HL.out; omega) (by have := HT.out; have := HL.out; omega)
              go_wp2_with (first | (go_at_call 117; refine hrot.mono ?_; rintro e w1 ⟨⟨v, rfl⟩, hR1, k1⟩; replace hR1 : Hid (Arr kb w1 g (P ++ (A1 ++ (B1 ++ (A2 ++ (B2 ++ Q)))))) := hR1; clear hrot) | (go_at_call 106; refine (hone w1 hR1.out).mono ?_; rintro e w2 ⟨⟨v, rfl⟩, ⟨M1, m1, m2, m3, m4⟩, k2⟩; replace m1 : Hid (M1.length = A1.length + B1.length) := m1; replace m2 : Hid (srt kI M1) := m2; replace m3 : Hid (eqv kI M1 (A1 ++ B1)) := m3; replace m4 : Hid (Arr kb w2 g (P ++ (M1 ++ (A2 ++ (B2 ++ Q))))) := m4; clear hone) | (go_at_call 106; refine (htwo w2 M1 m1.out m3.out m4.out).mono ?_; rintro e w3 ⟨⟨v, rfl⟩, ⟨M2, n1, n2, n3, n4⟩, k3⟩; replace n1 : Hid (M2.length = A2.length + B2.length) := n1; replace n2 : Hid (srt kI M2) := n2; replace n3 : Hid (eqv kI M2 (A2 ++ B2)) := n3; replace n4 : Hid (Arr kb w3 g ((P ++ M1) ++ (M2 ++ Q))) := n4; clear htwo))
              go_end0
              have hz := HEND.out M1 M2 _ m1.out m2.out m3.out n1.out n2.out n3.out n4.out
              exact ⟨⟨_, rfl⟩, by first | exact hz | simpa only [List.length_append, List.append_assoc] using hz, (((kA.trans k1).trans k2).trans k3)⟩
            · have bY2 := bY
              have f1 : (st : Int) < (m : Int) := by have := HT.out; have := HL.out; omega
              have f1n : st < m := by have := HT.out; have := HL.out; omega
              have f2 : (m : Int) < (en : Int) := by have := HT.out; have := HL.out; omega
              have f2n : m < en := by have := HT.out; have := HL.out; omega
              have f3 : (a : Int) < (st : Int) := by have := HT.out; have := HL.out; omega
              have f3n : a < st := by have := HT.out; have := HL.out; omega
              have f4 : (st : Int) < (md : Int) := by have := HT.out; have := HL.out; omega
              have f4n : st < md := by have := HT.out; have := HL.out; omega
              have f5 : (md : Int) < (en : Int) := by have := HT.out; have := HL.out; omega
              have f5n : md < en := by have := HT.out; have := HL.out; omega
              have f6 : ¬ (en : Int) < (b : Int) := by have := HT.out; have := HL.out; omega
              have f6n : ¬ en < b := by have := HT.out; have := HL.out; omega
              have hrot := hrot (by have := HT.out; have := HL.out; omega) (by have := HT.out; have := HL.out; omega)
              have hone := hone (by have := HT.out; have := HL.out; omega) (by have := HT.out; have := HL.out; omega)
              go_wp2_with (first | (go_at_call 117; refine hrot.mono ?_; rintro e w1 ⟨⟨v, rfl⟩, hR1, k1⟩; replace hR1 : Hid (Arr kb w1 g (P ++ (A1 ++ (B1 ++ (A2 ++ (B2 ++ Q)))))) := hR1; clear hrot) | (go_at_call 106; refine (hone w1 hR1.out).mono ?_; rintro e w2 ⟨⟨v, rfl⟩, ⟨M1, m1, m2, m3, m4⟩, k2⟩; replace m1 : Hid (M1.length = A1.length + B1.length) := m1; replace m2 : Hid (srt kI M1) := m2; replace m3 : Hid (eqv kI M1 (A1 ++ B1)) := m3; replace m4 : Hid (Arr kb w2 g (P ++ (M1 ++ (A2 ++ (B2 ++ Q))))) := m4; clear hone))
              go_end0
              have hz := HEND.out M1 (A2 ++ B2) _ m1.out m2.out m3.out (by simp) (srt_app (by have h1 := HT.out; have h2 := HL.out; exact .inr (List.eq_nil_of_length_eq_zero (by omega))) HQ.out.2.1 HQ.out.2.2.2) (eqv.refl _) (hR23 _ _ m4.out)
              exact ⟨⟨_, rfl⟩, by first | exact hz | simpa only [List.length_append, List.append_assoc] using hz, ((kA.trans k1).trans k2)⟩
          · have bx2 := bx
            by_cases bY : u < lb
            · have bY2 := bY
              have f1 : (st : Int) < (m : Int) := by have := HT.out; have := HL.out; omega
              have f1n : st < m := by have := HT.out; have := HL.out; omega
              have f2 : (m : Int) < (en : Int) := by have := HT.out; have := HL.out; omega
              have f2n : m < en := by have := HT.out; have := HL.out; omega
              have f3 : ¬ (a : Int) < (st : Int) := by have := HT.out; have := HL.out; omega
              have f3n : ¬ a < st := by have := HT.out; have := HL.out; omega
              have f4 : (st : Int) < (md : Int) := by have := HT.out; have := HL.out; omega
              have f4n : st < md := by have := HT.out; have := HL.out; omega
              have f5 : (md : Int) < (en : Int) := by have := HT.out; have := HL.out; omega
              have f5n : md < en := by have := HT.out; have := HL.out; omega
              have f6 : (en : Int) < (b : Int) := by have := HT.out; have := HL.out; omega
              have f6n : en < b := by have := HT.out; have := HL.out; omega
              have hrot := hrot (by have := HT.out; have := HL.out; omega) (by have := HT.out; have := HL.out; omega)
              have htwo := htwo (by have := HT.out; have := HL.out; omega) (by have := HT.out; have := HL.out; omega)
              go_wp2_with (first | (go_at_call 117; refine hrot.mono ?_; rintro e w1 ⟨⟨v, rfl⟩, hR1, k1⟩; replace hR1 : Hid (Arr kb w1 g (P ++ (A1 ++ (B1 ++ (A2 ++ (B2 ++ Q)))))) := hR1; clear hrot) | (go_at_call 106; refine (htwo w1 (A1 ++ B1) (by simp) (eqv.refl _) (hR12 _ hR1.out)).mono ?_; rintro e w3 ⟨⟨v, rfl⟩, ⟨M2, n1, n2, n3, n4⟩, k3⟩; replace n1 : Hid (M2.length = A2.length + B2.length) := n1; replace n2 : Hid (srt kI M2) := n2; replace n3 : Hid (eqv kI M2 (A2 ++ B2)) := n3; replace n4 : Hid (Arr kb w3 g ((P ++ (A1 ++ B1)) ++ (M2 ++ Q))) := n4; clear htwo))
              go_end0
              have hz := HEND.out (A1 ++ B1) M2 _ (by simp) (srt_app (by have h1 := HT.out; have h2 := HL.out; exact .inl (List.eq_nil_of_length_eq_zero (by omega))) HQ.out.1 HQ.out.2.2.1) (eqv.refl _) n1.out n2.out n3.out n4.out
              exact ⟨⟨_, rfl⟩, by first | exact hz | simpa only [List.length_append, List.append_assoc] using hz, ((kA.trans k1).trans k3)⟩
            · have bY2 := bY
              have f1 : (st : Int) < (m : Int) := by have := HT.out; have := HL.out; omega
              have f1n : st < m := by have := HT.out; have := HL.out; omega
              have f2 : (m : Int) < (en : Int) := by have := HT.out; have := HL.out; omega
              have f2n : m < en := by have := HT.out; have := HL.out; omega
              have f3 : ¬ (a : Int) < (st : Int) := by have := HT.out; have := HL.out; omega
              have f3n : ¬ a < st := by have := HT.out; have := HL.out; omega
              have f4 : (st : Int) < (md : Int) := by have := HT.out; have := HL.out; omega
              have f4n : st < md := by have := HT.out; have := HL.out; omega
              have f5 : (md : Int) < (en : Int) := by have := HT.out; have := HL.out; omega
              have f5n : md < en := by have := HT.out; have := HL.out; omega
              have f6 : ¬ (en : Int) < (b : Int) := by have := HT.out; have := HL.out; omega
              have f6n : ¬ en < b := by have := HT.out; have := HL.out; omega
              have hrot := hrot (by have := HT.out; have := HL.out; omega) (by have := HT.out; have := HL.out; omega)
              go_wp2_with (first | (go_at_call 117; refine hrot.mono ?_; rintro e w1 ⟨⟨v, rfl⟩, hR1, k1⟩; replace hR1 : Hid (Arr kb w1 g (P ++ (A1 ++ (B1 ++ (A2 ++ (B2 ++ Q)))))) := hR1; clear hrot))
              go_end0
              have hz := HEND.out (A1 ++ B1) (A2 ++ B2) _ (by simp) (srt_app (by have h1 := HT.out; have h2 := HL.out; exact .inl (List.eq_nil_of_length_eq_zero (by omega))) HQ.out.1 HQ.out.2.2.1) (eqv.refl _) (by simp) (srt_app (by have h1 := HT.out; have h2 := HL.out; exact .inr (List.eq_nil_of_length_eq_zero (by omega))) HQ.out.2.1 HQ.out.2.2.2) (eqv.refl _) (hR23 _ _ (hR12 _ hR1.out))
              exact ⟨⟨_, rfl⟩, by first | exact hz | simpa only [List.length_append, List.append_assoc] using hz, (kA.trans k1)⟩
        · have bq2 := bq
          by_cases bx : 0 < s
          · have bx2 := bx
            by_cases bY : u < lb
            · have bY2 := bY
              have f1 : (st : Int) < (m : Int) := by have := HT.out; have := HL.out; omega
              have f1n : st < m := by have := HT.out; have := HL.out; omega
              have f2 : ¬ (m : Int) < (en : Int) := by have := HT.out; have := HL.out; omega
              have f2n : ¬ m < en := by have := HT.out; have := HL.out; omega
              have f3 : (a : Int) < (st : Int) := by have := HT.out; have := HL.out; omega
              have f3n : a < st := by have := HT.out; have := HL.out; omega
              have f4 : ¬ (st : Int) < (md : Int) := by have := HT.out; have := HL.out; omega
              have f4n : ¬ st < md := by have := HT.out; have := HL.out; omega
              have f5 : (md : Int) < (en : Int) := by have := HT.out; have := HL.out; omega
              have f5n : md < en := by have := HT.out; have := HL.out; omega
              have f6 : (en : Int) < (b : Int) := by have := HT.out; have := HL.out; omega
              have f6n : en < b := by have := HT.out; have := HL.out; omega
              have hR1 : Hid (Arr kb wv g (P ++ (A1 ++ (B1 ++ (A2 ++ (B2 ++ Q)))))) := sym_norot (by have h1 := HT.out; have h2 := HL.out; exact .inr (List.eq_nil_of_length_eq_zero (by omega))) HR.out
              have htwo := htwo (by have := HT.out; have := HL.out; omega) (by have := HT.out; have := HL.out; omega)
              go_wp2_with (first | (go_at_call 106; refine (htwo wv (A1 ++ B1) (by simp) (eqv.refl _) (hR12 _ hR1.out)).mono ?_; rintro e w3 ⟨⟨v, rfl⟩, ⟨M2, n1, n2, n3, n4⟩, k3⟩; replace n1 : Hid (M2.length = A2.length + B2.length) := n1; replace n2 : Hid (srt kI M2) := n2; replace n3 : Hid (eqv kI M2 (A2 ++ B2)) := n3; replace n4 : Hid (Arr kb w3 g ((P ++ (A1 ++ B1)) ++ (M2 ++ Q))) := n4; clear htwo))
              go_end0
              have hz := HEND.out (A1 ++ B1) M2 _ (by simp) (srt_app (by have h1 := HT.out; have h2 := HL.out; exact .inr (List.eq_nil_of_length_eq_zero (by omega))) HQ.out.1 HQ.out.2.2.1) (eqv.refl _) n1.out n2.out n3.out n4.out
              exact ⟨⟨_, rfl⟩, by first | exact hz | simpa only [List.length_append, List.append_assoc] using hz, (kA.trans k3)⟩
            · have bY2 := bY
              have f1 : (st : Int) < (m : Int) := by have := HT.out; have := HL.out; omega
              have f1n : st < m := by have := HT.out; have := HL.out; omega
              have f2 : ¬ (m : Int) < (en : Int) := by have := HT.out; have := HL.out; omega
              have f2n : ¬ m < en := by have := HT.out; have := HL.out; omega
              have f3 : (a : Int) < (st : Int) := by have := HT.out; have := HL.out; omega
              have f3n : a < st := by have := HT.out; have := HL.out; omega
              have f4 : ¬ (st : Int) < (md : Int) := by have := HT.out; have := HL.out; omega
              have f4n : ¬ st < md := by have := HT.out; have := HL.out; omega
              have f5 : (md : Int) < (en : Int) := by have := HT.out; have := HL.out; omega
              have f5n : md < en := by have := HT.out; have := HL.out; omega
              have f6 : ¬ (en : Int) < (b : Int) := by have := HT.out; have := HL.out; omega
              have f6n : ¬ en < b := by have := HT.out; have := HL.out; omega
              have hR1 : Hid (Arr kb wv g (P ++ (A1 ++ (B1 ++ (A2 ++ (B2 ++ Q)))))) := sym_norot (by have h1 := HT.out; have h2 := HL.out; exact .inr (List.eq_nil_of_length_eq_zero (by omega))) HR.out
              go_wp2_with (fail)
              go_end0
              have hz := HEND.out (A1 ++ B1) (A2 ++ B2) _ (by simp) (srt_app (by have h1 := HT.out; have h2 := HL.out; exact .inr (List.eq_nil_of_length_eq_zero (by omega))) HQ.out.1 HQ.out.2.2.1) (eqv.refl _) (by simp) (srt_app (by have h1 := HT.out; have h2 := HL.out; exact .inr (List.eq_nil_of_length_eq_zero (by omega))) HQ.out.2.1 HQ.out.2.2.2) (eqv.refl _) (hR23 _ _ (hR12 _ hR1.out))
              exact ⟨⟨_, rfl⟩, by first | exact hz | simpa only [List.length_append, List.append_assoc] using hz, kA⟩
          · have bx2 := bx
            exfalso; have := HT.out; have := HL.out; omega
      · have bp2 := bp
        by_cases bq : 0 < u
        · have bq2 := bq
          by_cases bx : 0 < s
          · have bx2 := bx
            by_cases bY : u < lb
            · have bY2 := bY
              have f1 : ¬ (st : Int) < (m : Int) := by have := HT.out; have := HL.out; omega
              have f1n : ¬ st < m := by have := HT.out; have := HL.out; omega
              have f2 : (m : Int) < (en : Int) := by have := HT.out; have := HL.out; omega
              have f2n : m < en := by have := HT.out; have := HL.out; omega
              have f3 : (a : Int) < (st : Int) := by have := HT.out; have := HL.out; omega
              have f3n : a < st := by have := HT.out; have := HL.out; omega
              have f4 : (st : Int) < (md : Int) := by have := HT.out; have := HL.out; omega
              have f4n : st < md := by have := HT.out; have := HL.out; omega
              have f5 : ¬ (md : Int) < (en : Int) := by have := HT.out; have := HL.out; omega
              have f5n : ¬ md < en := by have := HT.out; have := HL.out; omega
              have f6 : (en : Int) < (b : Int) := by have := HT.out; have := HL.out; omega
              have f6n : en < b := by have := HT.out; have := HL.out; omega
              have hR1 : Hid (Arr kb wv g (P ++ (A1 ++ (B1 ++ (A2 ++ (B2 ++ Q)))))) := sym_norot (by have h1 := HT.out; have h2 := HL.out; exact .inl (List.eq_nil_of_length_eq_zero (by omega))) HR.out
              have hone := hone (by have := HT.out; have := HL.out; omega) (by have := HT.out; have := HL.out; omega)
              go_wp2_with (first | (go_at_call 106; refine (hone wv hR1.out).mono ?_; rintro e w2 ⟨⟨v, rfl⟩, ⟨M1, m1, m2, m3, m4⟩, k2⟩; replace m1 : Hid (M1.length = A1.length + B1.length) := m1; replace m2 : Hid (srt kI M1) := m2; replace m3 : Hid (eqv kI M1 (A1 ++ B1)) := m3; replace m4 : Hid (Arr kb w2 g (P ++ (M1 ++ (A2 ++ (B2 ++ Q))))) := m4; clear hone))
              go_end0
              have hz := HEND.out M1 (A2 ++ B2) _ m1.out m2.out m3.out (by simp) (srt_app (by have h1 := HT.out; have h2 := HL.out; exact .inl (List.eq_nil_of_length_eq_zero (by omega))) HQ.out.2.1 HQ.out.2.2.2) (eqv.refl _) (hR23 _ _ m4.out)
              exact ⟨⟨_, rfl⟩, by first | exact hz | simpa only [List.length_append, List.append_assoc] using hz, (kA.trans k2)⟩
            · have bY2 := bY
              exfalso; have := HT.out; have := HL.out; omega
          · have bx2 := bx
            by_cases bY : u < lb
            · have bY2 := bY
              have f1 : ¬ (st : Int) < (m : Int) := by have := HT.out; have := HL.out; omega
              have f1n : ¬ st < m := by have := HT.out; have := HL.out; omega
              have f2 : (m : Int) < (en : Int) := by have := HT.out; have := HL.out; omega
              have f2n : m < en := by have := HT.out; have := HL.out; omega
              have f3 : ¬ (a : Int) < (st : Int) := by have := HT.out; have := HL.out; omega
              have f3n : ¬ a < st := by have := HT.out; have := HL.out; omega
              have f4 : (st : Int) < (md : Int) := by have := HT.out; have := HL.out; omega
              have f4n : st < md := by have := HT.out; have := HL.out; omega
              have f5 : ¬ (md : Int) < (en : Int) := by have := HT.out; have := HL.out; omega
              have f5n : ¬ md < en := by have := HT.out; have := HL.out; omega
              have f6 : (en : Int) < (b : Int) := by have := HT.out; have := HL.out; omega
              have f6n : en < b := by have := HT.out; have := HL.out; omega
              have hR1 : Hid (Arr kb wv g (P ++ (A1 ++ (B1 ++ (A2 ++ (B2 ++ Q)))))) := sym_norot (by have h1 := HT.out; have h2 := HL.out; exact .inl (List.eq_nil_of_length_eq_zero (by omega))) HR.out
              go_wp2_with (fail)
              go_end0
              have hz := HEND.out (A1 ++ B1) (A2 ++ B2) _ (by simp) (srt_app (by have h1 := HT.out; have h2 := HL.out; exact .inl (List.eq_nil_of_length_eq_zero (by omega))) HQ.out.1 HQ.out.2.2.1) (eqv.refl _) (by simp) (srt_app (by have h1 := HT.out; have h2 := HL.out; exact .inl (List.eq_nil_of_length_eq_zero (by omega))) HQ.out.2.1 HQ.out.2.2.2) (eqv.refl _) (hR23 _ _ (hR12 _ hR1.out))
              exact ⟨⟨_, rfl⟩, by first | exact hz | simpa only [List.length_append, List.append_assoc] using hz, kA⟩
            · have bY2 := bY
              exfalso; have := HT.out; have := HL.out; omega
        · have bq2 := bq
          by_cases bx : 0 < s
          · have bx2 := bx
            by_cases bY : u < lb
            · have bY2 := bY
              have f1 : ¬ (st : Int) < (m : Int) := by have := HT.out; have := HL.out; omega
              have f1n : ¬ st < m := by have := HT.out; have := HL.out; omega
              have f2 : ¬ (m : Int) < (en : Int) := by have := HT.out; have := HL.out; omega
              have f2n : ¬ m < en := by have := HT.out; have := HL.out; omega
              have f3 : (a : Int) < (st : Int) := by have := HT.out; have := HL.out; omega
              have f3n : a < st := by have := HT.out; have := HL.out; omega
              have f4 : ¬ (st : Int) < (md : Int) := by have := HT.out; have := HL.out; omega
              have f4n : ¬ st < md := by have := HT.out; have := HL.out; omega
              have f5 : ¬ (md : Int) < (en : Int) := by have := HT.out; have := HL.out; omega
              have f5n : ¬ md < en := by have := HT.out; have := HL.out; omega
              have f6 : (en : Int) < (b : Int) := by have := HT.out; have := HL.out; omega
              have f6n : en < b := by have := HT.out; have := HL.out; omega
              have hR1 : Hid (Arr kb wv g (P ++ (A1 ++ (B1 ++ (A2 ++ (B2 ++ Q)))))) := sym_norot (by have h1 := HT.out; have h2 := HL.out; exact .inr (List.eq_nil_of_length_eq_zero (by omega))) HR.out
              go_wp2_with (fail)
              go_end0
              have hz := HEND.out (A1 ++ B1) (A2 ++ B2) _ (by simp) (srt_app (by have h1 := HT.out; have h2 := HL.out; exact .inr (List.eq_nil_of_length_eq_zero (by omega))) HQ.out.1 HQ.out.2.2.1) (eqv.refl _) (by simp) (srt_app (by have h1 := HT.out; have h2 := HL.out; exact .inl (List.eq_nil_of_length_eq_zero (by omega))) HQ.out.2.1 HQ.out.2.2.2) (eqv.refl _) (hR23 _ _ (hR12 _ hR1.out))
              exact ⟨⟨_, rfl⟩, by first | exact hz | simpa only [List.length_append, List.append_assoc] using hz, kA⟩
            · have bY2 := bY
              exfalso; have := HT.out; have := HL.out; omega
          · have bx2 := bx
            exfalso; have := HT.out; have := HL.out; omega
end Go.Proofs.Ytaogjiffnebnkaa.Cu
set_option linter.unusedVariables false
set_option linter.unusedSimpArgs false
namespace Go.Proofs.Ytaogjiffnebnkaa.Cu
open Go.RowKit
theorem sym_all (kb g c n : Nat) (hl : n ≤ 17592186044416) : ∀ k, SymI kb g c n k := by
  intro k
  induction k with
  | zero => intro a m b P A B Q w h; omega
  | succ k ih =>
    intro a m b P A B Q w hk hA1 hB1 hF hn ha hm hb s1 s2 hA
    by_cases h1 : A.length = 1
    · obtain ⟨x, rfl⟩ : ∃ x, A = [x] := List.length_eq_one_iff.1 h1
      have h := sym_left kb g c n a m b x P B Q w hF hn hl ha (by simpa using hm) hb (by assumption) hA
      unfold SymP
      refine h.mono ?_
      rintro e w' ⟨p1, ⟨M, q1, q2, q3, q4⟩, p3⟩
      exact ⟨p1, ⟨M, by simp; omega, q2, q3, q4⟩, p3⟩
    · by_cases h2 : B.length = 1
      · obtain ⟨y, rfl⟩ : ∃ y, B = [y] := List.length_eq_one_iff.1 h2
        have h := sym_right kb g c n a m b y P A Q w hF hn hl ha hm (by simpa using hb) h1 s1 hA
        unfold SymP
        refine h.mono ?_
        rintro e w' ⟨p1, ⟨M, q1, q2, q3, q4⟩, p3⟩
        exact ⟨p1, ⟨M, by simp; omega, q2, q3, q4⟩, p3⟩
      · have IH : SymI kb g c n (A.length + B.length) := fun a' m' b' P' A' B' Q' w' hk' => ih a' m' b' P' A' B' Q' w' (by omega)
        by_cases h3 : (A.length + B.length) / 2 < A.length
        · exact sym_high kb g c n a m b P A B Q w IH hF hn hl ha hm hb (by omega) (by omega) h3 s1 s2 hA
        · exact sym_low kb g c n a m b P A B Q w IH hF hn hl ha hm hb (by omega) (by omega) (by omega) s1 s2 hA
/-- Two stretches merged. -/
theorem sym_any (kb g c n a m b : Nat) (P A B Q : List It) (w : World) (hl : n ≤ 17592186044416) (hA1 : 1 ≤ A.length) (hB1 : 1 ≤ B.length) (hF : F64 (P ++ (A ++ (B ++ Q)))) (hn : (P ++ (A ++ (B ++ Q))).length = n) (ha : P.length = a) (hm : a + A.length = m) (hb : m + B.length = b) (s1 : srt kI A) (s2 : srt kI B) (hA : Arr kb w g (P ++ (A ++ (B ++ Q)))) : SymP kb g c n a m b P A B Q w :=
  sym_all kb g c n hl (A.length + B.length + 1) a m b P A B Q w (by omega) hA1 hB1 hF hn ha hm hb s1 s2 hA
/-- A list of stretches that are sorted, each of the same length but the last. -/
inductive Cb (bs : Nat) : List It → Prop where
  | last (R : List It) (h : R.length < bs) (s : srt kI R) : Cb bs R
  | cons (M Y : List It) (h : M.length = bs) (s : srt kI M) (r : Cb bs Y) : Cb bs (M ++ Y)
theorem Cb.first {bs : Nat} {Y : List It} (h : Cb bs Y) (hl : bs ≤ Y.length) : ∃ M Z, Y = M ++ Z ∧ M.length = bs ∧ srt kI M ∧ Cb bs Z := by
  cases h with
  | last R h s => omega
  | cons M Z h s r => exact ⟨M, Z, rfl, h, s, r⟩
theorem Cb.small {bs : Nat} {Y : List It} (h : Cb bs Y) (hl : Y.length ≤ bs) : srt kI Y := by
  cases h with
  | last R h s => exact s
  | cons M Z h s r =>
    have : Z = [] := List.eq_nil_of_length_eq_zero (by simp at hl; omega)
    subst this
    simpa using s
theorem F64.eqv {X Y : List It} (h : F64 X) (he : eqv kI Y X) : F64 Y := fun x hx => h x (he.mem hx)
theorem ins_parts (kb g c n a b : Nat) (P X Q : List It) (w : World) (hF : F64 (P ++ (X ++ Q))) (hn : (P ++ (X ++ Q)).length = n) (hl : n ≤ 17592186044416) (ha : P.length = a) (hb : a + X.length = b) (hA : Arr kb w g (P ++ (X ++ Q))) :
    Calls Try.prog 105 #[.slice (some ⟨g, 0, none⟩) n c, .int .i64 (a : Int), .int .i64 (b : Int), cmpF kb] w fun e w' => (∃ v, e = .returned v) ∧ (∃ M, M.length = X.length ∧ srt kI M ∧ eqv kI M X ∧ Arr kb w' g (P ++ (M ++ Q))) ∧ Oth g w w' := by
  have h := insertion_any kb g c P X Q w hF (by rw [hn]; exact hl) hA
  rw [hn, ha, hb] at h
  exact h
end Go.Proofs.Ytaogjiffnebnkaa.Cu
set_option linter.unusedVariables false
set_option linter.unusedSimpArgs false
namespace Go.Proofs.Ytaogjiffnebnkaa.Cu
open Go.RowKit
set_option maxRecDepth 100000 in
set_option maxHeartbeats 4000000 in
/-- The library's stable sort: the row sorted, of what is alike the first first. -/
theorem stable_any (kb g c n : Nat) (l : List It) (w : World) (hF : F64 l) (hn : l.length = n) (hl : n ≤ 17592186044416) (hA : Arr kb w g l) :
    Calls Try.prog 87 #[.slice (some ⟨g, 0, none⟩) n c, .int .i64 (n : Int), cmpF kb] w fun e w' => (∃ v, e = .returned v) ∧ (∃ M, M.length = n ∧ srt kI M ∧ eqv kI M l ∧ Arr kb w' g M) ∧ Oth g w w' := by
  replace hA : Hid (Arr kb w g l) := hA
  replace hF : Hid (F64 l) := hF
  replace hn : Hid (l.length = n) := hn
  go_enter Try.func87, Try.ntmps87
  go_wp2_with fail
  go_loopw [7, 8] (fun av bv wr => ∃ (a b : Nat) (X R : List It), av = .int .i64 (a : Int) ∧ bv = .int .i64 (b : Int) ∧ a + 20 = b ∧ a ≤ n ∧ Hid (X.length = a ∧ X.length + R.length = n ∧ (∀ Z, Cb 20 Z → Cb 20 (X ++ Z)) ∧ eqv kI (X ++ R) l) ∧ Hid (Arr kb wr g (X ++ R)) ∧ Oth g w wr) (fun av _ _ => n - (intOf av).toNat)
  case atStart => exact ⟨0, 20, [], l, rfl, rfl, rfl, by omega, ⟨rfl, by simpa using hn.out, fun Z hZ => by simpa using hZ, eqv.refl _⟩, hA, Oth.refl _ _⟩
  case round =>
    obtain ⟨a, b, X, R, rfl, rfl, hab, han, hI, hW, ko⟩ := hrel
    by_cases hbn : b ≤ n
    · have hbc : (b : Int) ≤ (n : Int) := by omega
      have hs : Calls Try.prog 105 #[.slice (some ⟨g, 0, none⟩) n c, .int .i64 (a : Int), .int .i64 (b : Int), cmpF kb] wr fun e w' => (∃ v, e = .returned v) ∧ (∃ M, M.length = 20 ∧ srt kI M ∧ eqv kI M (R.take 20) ∧ Arr kb w' g (X ++ (M ++ R.drop 20))) ∧ Oth g wr w' := by
        have h1 := hI.out
        have hA2 := hW.out
        have e : X ++ R = X ++ (R.take 20 ++ R.drop 20) := by rw [List.take_append_drop]
        have hF2 := hF.out.eqv h1.2.2.2
        rw [e] at hA2 hF2
        have ht : (R.take 20).length = 20 := by simp; omega
        have h := ins_parts kb g c n a b X (R.take 20) (R.drop 20) wr hF2 (by rw [← e]; simp; omega) hl h1.1 (by omega) hA2
        rw [ht] at h
        exact h
      go_wp2_with (go_at_call 105; refine hs.mono ?_; rintro e w2 ⟨⟨v, rfl⟩, ⟨M, m1, m2, m3, m4⟩, k2⟩; replace m1 : Hid (M.length = 20) := m1; replace m4 : Hid (Arr kb w2 g (X ++ (M ++ R.drop 20))) := m4)
      have h1 := hI.out
      refine ⟨⟨b, b + 20, X ++ M, R.drop 20, rfl, by go_num, rfl, hbn, ⟨by have := m1.out; simp; omega, by have := m1.out; simp; omega, fun Z hZ => ?_, ?_⟩, ?_, ko.trans k2⟩, ?_⟩
      · rw [List.append_assoc]
        exact h1.2.2.1 _ (Cb.cons M Z m1.out m2 hZ)
      · have h2 := (eqv.refl (key := kI) X).app (m3.app (eqv.refl (key := kI) (R.drop 20)))
        rw [List.take_append_drop] at h2
        rw [List.append_assoc]
        exact h2.trans h1.2.2.2
      · show Arr kb _ _ _
        rw [List.append_assoc]
        exact m4.out
      · simp [intOf]; omega
    · have hbc : ¬ (b : Int) ≤ (n : Int) := by omega
      have hs : Calls Try.prog 105 #[.slice (some ⟨g, 0, none⟩) n c, .int .i64 (a : Int), .int .i64 (n : Int), cmpF kb] wr fun e w' => (∃ v, e = .returned v) ∧ (∃ M, M.length = R.length ∧ srt kI M ∧ eqv kI M R ∧ Arr kb w' g (X ++ (M ++ []))) ∧ Oth g wr w' := by
        have h1 := hI.out
        have hA2 := hW.out
        have e : X ++ R = X ++ (R ++ []) := by rw [List.append_nil]
        have hF2 := hF.out.eqv h1.2.2.2
        rw [e] at hA2 hF2
        exact ins_parts kb g c n a n X R [] wr hF2 (by rw [← e]; simp; omega) hl h1.1 (by omega) hA2
      have HB : Hid (a + 20 = b ∧ ¬ b ≤ n) := ⟨hab, hbn⟩
      clear hab hbn
      go_wp2_with (go_at_call 105; refine hs.mono ?_; rintro e w2 ⟨⟨v, rfl⟩, ⟨M, m1, m2, m3, m4⟩, k2⟩; replace m1 : Hid (M.length = R.length) := m1; replace m2 : Hid (srt kI M) := m2; replace m3 : Hid (eqv kI M R) := m3; replace m4 : Hid (Arr kb w2 g (X ++ (M ++ []))) := m4)
      have hA0 : Hid (Arr kb w2 g (X ++ M)) := by have := m4.out; rw [List.append_nil] at this; exact this
      have HI0 : Hid ((X ++ M).length = n ∧ Cb 20 (X ++ M) ∧ eqv kI (X ++ M) l) := by
        have h1 := hI.out
        have h2 := m1.out
        have h3 := HB.out
        exact ⟨by simp; omega, h1.2.2.1 _ (Cb.last M (by omega) m2.out), ((eqv.refl (key := kI) X).app m3.out).trans h1.2.2.2⟩
      have k0 := ko.trans k2
      generalize X ++ M = L at hA0 HI0
      clear hs hI hW m1 m2 m3 m4 ko k2 HB hbc
      go_loopw [6] (fun sv wr => ∃ (bs : Nat) (L : List It), sv = .int .i64 (bs : Int) ∧ 20 ≤ bs ∧ bs ≤ 35184372088852 ∧ Hid (L.length = n ∧ Cb bs L ∧ eqv kI L l) ∧ Hid (Arr kb wr g L) ∧ Oth g w wr) (fun sv _ => n - (intOf sv).toNat)
      case atStart => exact ⟨20, L, rfl, by omega, by omega, HI0, hA0, k0⟩
      case round =>
        obtain ⟨bs, L, rfl, hbs, hbs2, hI, hW, ko⟩ := hrel
        by_cases hlt : bs < n
        · have hltc : (bs : Int) < (n : Int) := by omega
          obtain ⟨b2, hb2⟩ : ∃ b2, 2 * bs = b2 := ⟨_, rfl⟩
          have hb2c : (2 : Int) * (bs : Int) = (b2 : Int) := by omega
          have hb2d : (bs : Int) * 2 = (b2 : Int) := by omega
          have HB2 : Hid (2 * bs = b2 ∧ bs < n) := ⟨hb2, hlt⟩
          have hb2l : b2 ≤ 35184372088832 := by omega
          clear hb2 hlt
          obtain ⟨wo, hwo⟩ : ∃ wo, wo = wr := ⟨_, rfl⟩
          subst hwo
          go_wp2_with fail
          go_loopw [7, 8] (fun av bv wr => ∃ (a b : Nat) (X R : List It), av = .int .i64 (a : Int) ∧ bv = .int .i64 (b : Int) ∧ a + b2 = b ∧ a ≤ n ∧ Hid (X.length = a ∧ X.length + R.length = n ∧ (∀ Z, Cb b2 Z → Cb b2 (X ++ Z)) ∧ Cb bs R ∧ eqv kI (X ++ R) l) ∧ Hid (Arr kb wr g (X ++ R)) ∧ Oth g w wr) (fun av _ _ => n - (intOf av).toNat)
          case atStart =>
            have h1 := hI.out
            exact ⟨0, b2, [], L, rfl, rfl, by omega, by omega, ⟨rfl, by simpa using h1.1, fun Z hZ => by simpa using hZ, h1.2.1, h1.2.2⟩, hW, ko⟩
          case round =>
            obtain ⟨a, b, X, R, rfl, rfl, hab, han, hJ, hV, kj⟩ := hrel
            by_cases hbn : b ≤ n
            · have hbc : (b : Int) ≤ (n : Int) := by omega
              obtain ⟨m, hm⟩ : ∃ m, a + bs = m := ⟨_, rfl⟩
              have hmc : (a : Int) + (bs : Int) = (m : Int) := by omega
              have hmn : m ≤ n := by have := HB2.out; omega
              obtain ⟨M1, Z1, e1, l1, q1, r1⟩ := hJ.out.2.2.2.1.first (by have h1 := hJ.out; have := HB2.out; omega)
              obtain ⟨M2, Z2, e2, l2, q2, r2⟩ := r1.first (by have h1 := hJ.out; have := HB2.out; rw [e1] at h1; simp at h1; omega)
              rw [e1, e2] at hJ hV
              have hs : Calls Try.prog 106 #[.slice (some ⟨g, 0, none⟩) n c, .int .i64 (a : Int), .int .i64 (m : Int), .int .i64 (b : Int), cmpF kb] wr fun e w' => (∃ v, e = .returned v) ∧ (∃ M, M.length = M1.length + M2.length ∧ srt kI M ∧ eqv kI M (M1 ++ M2) ∧ Arr kb w' g (X ++ (M ++ Z2))) ∧ Oth g wr w' := by
                have h1 := hJ.out
                have h2 := HB2.out
                exact sym_any kb g c n a m b X M1 M2 Z2 wr hl (by omega) (by omega) (hF.out.eqv h1.2.2.2.2) (by have := h1.2.1; simp at this ⊢; omega) h1.1 (by omega) (by omega) q1 q2 hV.out
              have HX : Hid (a + b2 = b ∧ b ≤ n ∧ M1.length = bs ∧ M2.length = bs ∧ Cb bs Z2) := ⟨hab, hbn, l1, l2, r2⟩
              clear hab hbn hm e1 e2 r1 r2 q1 q2 l1 l2
              go_wp2_with (go_at_call 106; refine hs.mono ?_; rintro e w2 ⟨⟨v, rfl⟩, ⟨M, m1, m2, m3, m4⟩, k2⟩; replace m1 : Hid (M.length = M1.length + M2.length) := m1; replace m2 : Hid (srt kI M) := m2; replace m3 : Hid (eqv kI M (M1 ++ M2)) := m3; replace m4 : Hid (Arr kb w2 g (X ++ (M ++ Z2))) := m4)
              have h1 := hJ.out
              have h2 := HX.out
              have h3 := HB2.out
              have h4 := m1.out
              have h5 := h1.2.1
              simp only [List.length_append] at h5
              refine ⟨⟨b, b + b2, X ++ M, Z2, rfl, by go_num, rfl, h2.2.1, ⟨by simp; omega, by simp; omega, fun Z hZ => ?_, h2.2.2.2.2, ?_⟩, ?_, kj.trans k2⟩, ?_⟩
              · rw [List.append_assoc]
                exact h1.2.2.1 _ (Cb.cons M Z (by omega) m2.out hZ)
              · have h6 := (eqv.refl (key := kI) X).app (m3.out.app (eqv.refl (key := kI) Z2))
                rw [List.append_assoc M1] at h6
                rw [List.append_assoc]
                exact h6.trans h1.2.2.2.2
              · show Arr kb _ _ _
                rw [List.append_assoc]
                exact m4.out
              · simp [intOf]; omega
            · have hbc : ¬ (b : Int) ≤ (n : Int) := by omega
              obtain ⟨m, hm⟩ : ∃ m, a + bs = m := ⟨_, rfl⟩
              have hmc : (a : Int) + (bs : Int) = (m : Int) := by omega
              have hmk : m ≤ 52776558133248 := by have := HB2.out; omega
              by_cases hmn : m < n
              · have hmnc : (m : Int) < (n : Int) := by omega
                obtain ⟨M1, Z1, e1, l1, q1, r1⟩ := hJ.out.2.2.2.1.first (by have h1 := hJ.out; have := HB2.out; omega)
                rw [e1] at hJ hV
                have lz : m + Z1.length = n := by have h1 := hJ.out.2.1; have h2 := hJ.out.1; simp at h1; omega
                have sz := r1.small (by have := HB2.out; omega)
                have hs : Calls Try.prog 106 #[.slice (some ⟨g, 0, none⟩) n c, .int .i64 (a : Int), .int .i64 (m : Int), .int .i64 (n : Int), cmpF kb] wr fun e w' => (∃ v, e = .returned v) ∧ (∃ M, M.length = M1.length + Z1.length ∧ srt kI M ∧ eqv kI M (M1 ++ Z1) ∧ Arr kb w' g (X ++ (M ++ []))) ∧ Oth g wr w' := by
                  have h1 := hJ.out
                  have h2 := HB2.out
                  have hV2 := hV.out
                  have hF2 := hF.out.eqv h1.2.2.2.2
                  have e : X ++ (M1 ++ Z1) = X ++ (M1 ++ (Z1 ++ [])) := by rw [List.append_nil]
                  rw [e] at hV2 hF2
                  exact sym_any kb g c n a m n X M1 Z1 [] wr hl (by omega) (by omega) hF2 (by have := h1.2.1; simp at this ⊢; omega) h1.1 (by omega) (by omega) q1 sz hV2
                have HX : Hid (a + b2 = b ∧ ¬ b ≤ n ∧ M1.length = bs ∧ m + Z1.length = n ∧ a + bs = m) := ⟨hab, hbn, l1, lz, hm⟩
                clear hab hbn hm e1 r1 q1 l1 sz lz
                go_wp2_with (go_at_call 106; refine hs.mono ?_; rintro e w2 ⟨⟨v, rfl⟩, ⟨M, m1, m2, m3, m4⟩, k2⟩; replace m1 : Hid (M.length = M1.length + Z1.length) := m1; replace m2 : Hid (srt kI M) := m2; replace m3 : Hid (eqv kI M (M1 ++ Z1)) := m3; replace m4 : Hid (Arr kb w2 g (X ++ (M ++ []))) := m4)
                have h1 := hJ.out
                have h2 := HX.out
                have h3 := HB2.out
                have h4 := m1.out
                have h5 := h1.2.1
                simp only [List.length_append] at h5
                refine ⟨⟨b2, X ++ M, rfl, by omega, by omega, ⟨by simp; omega, h1.2.2.1 _ (Cb.last M (by omega) m2.out), ((eqv.refl (key := kI) X).app m3.out).trans h1.2.2.2.2⟩, ?_, kj.trans k2⟩, ?_⟩
                · have := m4.out
                  rw [List.append_nil] at this
                  exact this
                · simp [intOf]; omega
              · have hmnc : ¬ (m : Int) < (n : Int) := by omega
                have HX : Hid (a + b2 = b ∧ ¬ b ≤ n ∧ a + bs = m ∧ ¬ m < n) := ⟨hab, hbn, hm, hmn⟩
                clear hab hbn hm
                go_wp2_with fail
                have h1 := hJ.out
                have h2 := HX.out
                have h3 := HB2.out
                refine ⟨⟨b2, X ++ R, rfl, by omega, by omega, ⟨by simp; omega, h1.2.2.1 _ (Cb.last R (by omega) (h1.2.2.2.1.small (by omega))), h1.2.2.2.2⟩, hV, kj⟩, ?_⟩
                simp [intOf]; omega
        · have hltc : ¬ (bs : Int) < (n : Int) := by omega
          go_wp2_with fail
          go_end0
          have h1 := hI.out
          exact ⟨⟨_, rfl⟩, ⟨L, h1.1, h1.2.1.small (by omega), h1.2.2, hW.out⟩, ko⟩
/-- The same, as it is called. -/
theorem sortStable_any (kb g c n : Nat) (l : List It) (w : World) (hF : F64 l) (hn : l.length = n) (hl : n ≤ 17592186044416) (hA : Arr kb w g l) :
    Calls Try.prog 73 #[.slice (some ⟨g, 0, none⟩) n c, cmpF kb] w fun e w' => (∃ v, e = .returned v) ∧ (∃ M, M.length = n ∧ srt kI M ∧ eqv kI M l ∧ Arr kb w' g M) ∧ Oth g w w' := by
  have hs := stable_any kb g c n l w hF hn hl hA
  clear hF hA
  go_enter Try.func73, Try.ntmps73
  go_wp2_with (go_at_call 87; refine hs.mono ?_; rintro e w2 ⟨⟨v, rfl⟩, ⟨M, m1, m2, m3, m4⟩, k2⟩; replace m1 : Hid (M.length = n) := m1; replace m2 : Hid (srt kI M) := m2; replace m3 : Hid (eqv kI M l) := m3; replace m4 : Hid (Arr kb w2 g M) := m4)
  go_end0
  exact ⟨⟨_, rfl⟩, ⟨M, m1.out, m2.out, m3.out, m4.out⟩, k2⟩
end Go.Proofs.Ytaogjiffnebnkaa.Cu
