import Derived.Test.YtjiflgdbgpegiaaSB10
set_option linter.unusedVariables false
set_option linter.unusedSimpArgs false
namespace Go.Proofs.Ytjiflgdbgpegiaa
open Go.RowKit
set_option maxRecDepth 100000 in
set_option maxHeartbeats 4000000 in
/-- The library's stable sort: the row sorted, of what is alike the first first. -/
theorem stable_any (g c n : Nat) (l : List Nat) (w : World) (hF : F64 l) (hn : l.length = n) (hl : n ≤ 17592186044416) (hA : Arr w g l) :
    Calls Try.prog 74 #[.slice (some ⟨g, 0, none⟩) n c, .int .i64 (n : Int), cmpF] w fun e w' => (∃ v, e = .returned v) ∧ (∃ M, M.length = n ∧ srt kI M ∧ eqv kI M l ∧ Arr w' g M) ∧ Oth g w w' := by
  replace hA : Hid (Arr w g l) := hA
  replace hF : Hid (F64 l) := hF
  replace hn : Hid (l.length = n) := hn
  go_enter Try.func74, Try.ntmps74
  go_wp2_with fail
  go_loopw [7, 8] (fun av bv wr => ∃ (a b : Nat) (X R : List Nat), av = .int .i64 (a : Int) ∧ bv = .int .i64 (b : Int) ∧ a + 20 = b ∧ a ≤ n ∧ Hid (X.length = a ∧ X.length + R.length = n ∧ (∀ Z, Cb 20 Z → Cb 20 (X ++ Z)) ∧ eqv kI (X ++ R) l) ∧ Hid (Arr wr g (X ++ R)) ∧ Oth g w wr) (fun av _ _ => n - (intOf av).toNat)
  case atStart => exact ⟨0, 20, [], l, rfl, rfl, rfl, by omega, ⟨rfl, by simpa using hn.out, fun Z hZ => by simpa using hZ, eqv.refl _⟩, hA, Oth.refl _ _⟩
  case round =>
    obtain ⟨a, b, X, R, rfl, rfl, hab, han, hI, hW, ko⟩ := hrel
    by_cases hbn : b ≤ n
    · have hbc : (b : Int) ≤ (n : Int) := by omega
      have hs : Calls Try.prog 78 #[.slice (some ⟨g, 0, none⟩) n c, .int .i64 (a : Int), .int .i64 (b : Int), cmpF] wr fun e w' => (∃ v, e = .returned v) ∧ (∃ M, M.length = 20 ∧ srt kI M ∧ eqv kI M (R.take 20) ∧ Arr w' g (X ++ (M ++ R.drop 20))) ∧ Oth g wr w' := by
        have h1 := hI.out
        have hA2 := hW.out
        have e : X ++ R = X ++ (R.take 20 ++ R.drop 20) := by rw [List.take_append_drop]
        have hF2 := hF.out.eqv h1.2.2.2
        rw [e] at hA2 hF2
        have ht : (R.take 20).length = 20 := by simp; omega
        have h := ins_parts g c n a b X (R.take 20) (R.drop 20) wr hF2 (by rw [← e]; simp; omega) hl h1.1 (by omega) hA2
        rw [ht] at h
        exact h
      go_wp2_with (go_at_call 78; refine hs.mono ?_; rintro e w2 ⟨⟨v, rfl⟩, ⟨M, m1, m2, m3, m4⟩, k2⟩; replace m1 : Hid (M.length = 20) := m1; replace m4 : Hid (Arr w2 g (X ++ (M ++ R.drop 20))) := m4)
      have h1 := hI.out
      refine ⟨⟨b, b + 20, X ++ M, R.drop 20, rfl, by go_num, rfl, hbn, ⟨by have := m1.out; simp; omega, by have := m1.out; simp; omega, fun Z hZ => ?_, ?_⟩, ?_, ko.trans k2⟩, ?_⟩
      · rw [List.append_assoc]
        exact h1.2.2.1 _ (Cb.cons M Z m1.out m2 hZ)
      · have h2 := (eqv.refl (key := kI) X).app (m3.app (eqv.refl (key := kI) (R.drop 20)))
        rw [List.take_append_drop] at h2
        rw [List.append_assoc]
        exact h2.trans h1.2.2.2
      · show Arr _ _ _
        rw [List.append_assoc]
        exact m4.out
      · simp [intOf]; omega
    · have hbc : ¬ (b : Int) ≤ (n : Int) := by omega
      have hs : Calls Try.prog 78 #[.slice (some ⟨g, 0, none⟩) n c, .int .i64 (a : Int), .int .i64 (n : Int), cmpF] wr fun e w' => (∃ v, e = .returned v) ∧ (∃ M, M.length = R.length ∧ srt kI M ∧ eqv kI M R ∧ Arr w' g (X ++ (M ++ []))) ∧ Oth g wr w' := by
        have h1 := hI.out
        have hA2 := hW.out
        have e : X ++ R = X ++ (R ++ []) := by rw [List.append_nil]
        have hF2 := hF.out.eqv h1.2.2.2
        rw [e] at hA2 hF2
        exact ins_parts g c n a n X R [] wr hF2 (by rw [← e]; simp; omega) hl h1.1 (by omega) hA2
      have HB : Hid (a + 20 = b ∧ ¬ b ≤ n) := ⟨hab, hbn⟩
      clear hab hbn
      go_wp2_with (go_at_call 78; refine hs.mono ?_; rintro e w2 ⟨⟨v, rfl⟩, ⟨M, m1, m2, m3, m4⟩, k2⟩; replace m1 : Hid (M.length = R.length) := m1; replace m2 : Hid (srt kI M) := m2; replace m3 : Hid (eqv kI M R) := m3; replace m4 : Hid (Arr w2 g (X ++ (M ++ []))) := m4)
      have hA0 : Hid (Arr w2 g (X ++ M)) := by have := m4.out; rw [List.append_nil] at this; exact this
      have HI0 : Hid ((X ++ M).length = n ∧ Cb 20 (X ++ M) ∧ eqv kI (X ++ M) l) := by
        have h1 := hI.out
        have h2 := m1.out
        have h3 := HB.out
        exact ⟨by simp; omega, h1.2.2.1 _ (Cb.last M (by omega) m2.out), ((eqv.refl (key := kI) X).app m3.out).trans h1.2.2.2⟩
      have k0 := ko.trans k2
      generalize X ++ M = L at hA0 HI0
      clear hs hI hW m1 m2 m3 m4 ko k2 HB hbc
      go_loopw [6] (fun sv wr => ∃ (bs : Nat) (L : List Nat), sv = .int .i64 (bs : Int) ∧ 20 ≤ bs ∧ bs ≤ 35184372088852 ∧ Hid (L.length = n ∧ Cb bs L ∧ eqv kI L l) ∧ Hid (Arr wr g L) ∧ Oth g w wr) (fun sv _ => n - (intOf sv).toNat)
      case atStart => exact ⟨20, L, rfl, by omega, by omega, HI0, hA0, k0⟩
      case round =>
        obtain ⟨bs, L, rfl, hbs, hbs2, hI, hW, ko⟩ := hrel
        by_cases hlt : bs < n
        · have hltc : (bs : Int) < (n : Int) := by omega
          obtain ⟨b2, hb2⟩ : ∃ b2, 2 * bs = b2 := ⟨_, rfl⟩
          have hb2c : (2 : Int) * (bs : Int) = (b2 : Int) := by omega
          have hb2d : (bs : Int) * 2 = (b2 : Int) := by omega
          have HB2 : Hid (2 * bs = b2 ∧ bs < n) := ⟨hb2, hlt⟩
          have hb2l : b2 ≤ 35184372088832 := by omega
          clear hb2 hlt
          obtain ⟨wo, hwo⟩ : ∃ wo, wo = wr := ⟨_, rfl⟩
          subst hwo
          go_wp2_with fail
          go_loopw [7, 8] (fun av bv wr => ∃ (a b : Nat) (X R : List Nat), av = .int .i64 (a : Int) ∧ bv = .int .i64 (b : Int) ∧ a + b2 = b ∧ a ≤ n ∧ Hid (X.length = a ∧ X.length + R.length = n ∧ (∀ Z, Cb b2 Z → Cb b2 (X ++ Z)) ∧ Cb bs R ∧ eqv kI (X ++ R) l) ∧ Hid (Arr wr g (X ++ R)) ∧ Oth g w wr) (fun av _ _ => n - (intOf av).toNat)
          case atStart =>
            have h1 := hI.out
            exact ⟨0, b2, [], L, rfl, rfl, by omega, by omega, ⟨rfl, by simpa using h1.1, fun Z hZ => by simpa using hZ, h1.2.1, h1.2.2⟩, hW, ko⟩
          case round =>
            obtain ⟨a, b, X, R, rfl, rfl, hab, han, hJ, hV, kj⟩ := hrel
            by_cases hbn : b ≤ n
            · have hbc : (b : Int) ≤ (n : Int) := by omega
              obtain ⟨m, hm⟩ : ∃ m, a + bs = m := ⟨_, rfl⟩
              have hmc : (a : Int) + (bs : Int) = (m : Int) := by omega
              have hmn : m ≤ n := by have := HB2.out; omega
              obtain ⟨M1, Z1, e1, l1, q1, r1⟩ := hJ.out.2.2.2.1.first (by have h1 := hJ.out; have := HB2.out; omega)
              obtain ⟨M2, Z2, e2, l2, q2, r2⟩ := r1.first (by have h1 := hJ.out; have := HB2.out; rw [e1] at h1; simp at h1; omega)
              rw [e1, e2] at hJ hV
              have hs : Calls Try.prog 79 #[.slice (some ⟨g, 0, none⟩) n c, .int .i64 (a : Int), .int .i64 (m : Int), .int .i64 (b : Int), cmpF] wr fun e w' => (∃ v, e = .returned v) ∧ (∃ M, M.length = M1.length + M2.length ∧ srt kI M ∧ eqv kI M (M1 ++ M2) ∧ Arr w' g (X ++ (M ++ Z2))) ∧ Oth g wr w' := by
                have h1 := hJ.out
                have h2 := HB2.out
                exact sym_any g c n a m b X M1 M2 Z2 wr hl (by omega) (by omega) (hF.out.eqv h1.2.2.2.2) (by have := h1.2.1; simp at this ⊢; omega) h1.1 (by omega) (by omega) q1 q2 hV.out
              have HX : Hid (a + b2 = b ∧ b ≤ n ∧ M1.length = bs ∧ M2.length = bs ∧ Cb bs Z2) := ⟨hab, hbn, l1, l2, r2⟩
              clear hab hbn hm e1 e2 r1 r2 q1 q2 l1 l2
              go_wp2_with (go_at_call 79; refine hs.mono ?_; rintro e w2 ⟨⟨v, rfl⟩, ⟨M, m1, m2, m3, m4⟩, k2⟩; replace m1 : Hid (M.length = M1.length + M2.length) := m1; replace m2 : Hid (srt kI M) := m2; replace m3 : Hid (eqv kI M (M1 ++ M2)) := m3; replace m4 : Hid (Arr w2 g (X ++ (M ++ Z2))) := m4)
              have h1 := hJ.out
              have h2 := HX.out
              have h3 := HB2.out
              have h4 := m1.out
              have h5 := h1.2.1
              simp only [List.length_append] at h5
              refine ⟨⟨b, b + b2, X ++ M, Z2, rfl, by go_num, rfl, h2.2.1, ⟨by simp; omega, by simp; omega, fun Z hZ => ?_, h2.2.2.2.2, ?_⟩, ?_, kj.trans k2⟩, ?_⟩
              · rw [List.append_assoc]
                exact h1.2.2.1 _ (Cb.cons M Z (by omega) m2.out hZ)
              · have h6 := (eqv.refl (key := kI) X).app (m3.out.app (eqv.refl (key := kI) Z2))
                rw [List.append_assoc M1] at h6
                rw [List.append_assoc]
                exact h6.trans h1.2.2.2.2
              · show Arr _ _ _
                rw [List.append_assoc]
                exact m4.out
              · simp [intOf]; omega
            · have hbc : ¬ (b : Int) ≤ (n : Int) := by omega
              obtain ⟨m, hm⟩ : ∃ m, a + bs = m := ⟨_, rfl⟩
              have hmc : (a : Int) + (bs : Int) = (m : Int) := by omega
              have hmk : m ≤ 52776558133248 := by have := HB2.out; omega
              by_cases hmn : m < n
              · have hmnc : (m : Int) < (n : Int) := by omega
                obtain ⟨M1, Z1, e1, l1, q1, r1⟩ := hJ.out.2.2.2.1.first (by have h1 := hJ.out; have := HB2.out; omega)
                rw [e1] at hJ hV
                have lz : m + Z1.length = n := by have h1 := hJ.out.2.1; have h2 := hJ.out.1; simp at h1; omega
                have sz := r1.small (by have := HB2.out; omega)
                have hs : Calls Try.prog 79 #[.slice (some ⟨g, 0, none⟩) n c, .int .i64 (a : Int), .int .i64 (m : Int), .int .i64 (n : Int), cmpF] wr fun e w' => (∃ v, e = .returned v) ∧ (∃ M, M.length = M1.length + Z1.length ∧ srt kI M ∧ eqv kI M (M1 ++ Z1) ∧ Arr w' g (X ++ (M ++ []))) ∧ Oth g wr w' := by
                  have h1 := hJ.out
                  have h2 := HB2.out
                  have hV2 := hV.out
                  have hF2 := hF.out.eqv h1.2.2.2.2
                  have e : X ++ (M1 ++ Z1) = X ++ (M1 ++ (Z1 ++ [])) := by rw [List.append_nil]
                  rw [e] at hV2 hF2
                  exact sym_any g c n a m n X M1 Z1 [] wr hl (by omega) (by omega) hF2 (by have := h1.2.1; simp at this ⊢; omega) h1.1 (by omega) (by omega) q1 sz hV2
                have HX : Hid (a + b2 = b ∧ ¬ b ≤ n ∧ M1.length = bs ∧ m + Z1.length = n ∧ a + bs = m) := ⟨hab, hbn, l1, lz, hm⟩
                clear hab hbn hm e1 r1 q1 l1 sz lz
                go_wp2_with (go_at_call 79; refine hs.mono ?_; rintro e w2 ⟨⟨v, rfl⟩, ⟨M, m1, m2, m3, m4⟩, k2⟩; replace m1 : Hid (M.length = M1.length + Z1.length) := m1; replace m2 : Hid (srt kI M) := m2; replace m3 : Hid (eqv kI M (M1 ++ Z1)) := m3; replace m4 : Hid (Arr w2 g (X ++ (M ++ []))) := m4)
                have h1 := hJ.out
                have h2 := HX.out
                have h3 := HB2.out
                have h4 := m1.out
                have h5 := h1.2.1
                simp only [List.length_append] at h5
                refine ⟨⟨b2, X ++ M, rfl, by omega, by omega, ⟨by simp; omega, h1.2.2.1 _ (Cb.last M (by omega) m2.out), ((eqv.refl (key := kI) X).app m3.out).trans h1.2.2.2.2⟩, ?_, kj.trans k2⟩, ?_⟩
                · have := m4.out
                  rw [List.append_nil] at this
                  exact this
                · simp [intOf]; omega
              · have hmnc : ¬ (m : Int) < (n : Int) := by omega
                have HX : Hid (a + b2 = b ∧ ¬ b ≤ n ∧ a + bs = m ∧ ¬ m < n) := ⟨hab, hbn, hm, hmn⟩
                clear hab hbn hm
                go_wp2_with fail
                have h1 := hJ.out
                have h2 := HX.out
                have h3 := HB2.out
                refine ⟨⟨b2, X ++ R, rfl, by omega, by omega, ⟨by simp; omega, h1.2.2.1 _ (Cb.last R (by omega) (h1.2.2.2.1.small (by omega))), h1.2.2.2.2⟩, hV, kj⟩, ?_⟩
                simp [intOf]; omega
        · have hltc : ¬ (bs : Int) < (n : Int) := by omega
          go_wp2_with fail
          go_end0
          have h1 := hI.out
          exact ⟨⟨_, rfl⟩, ⟨L, h1.1, h1.2.1.small (by omega), h1.2.2, hW.out⟩, ko⟩
/-- The same, as it is called. -/
theorem sortStable_any (g c n : Nat) (l : List Nat) (w : World) (hF : F64 l) (hn : l.length = n) (hl : n ≤ 17592186044416) (hA : Arr w g l) :
    Calls Try.prog 66 #[.slice (some ⟨g, 0, none⟩) n c, cmpF] w fun e w' => (∃ v, e = .returned v) ∧ (∃ M, M.length = n ∧ srt kI M ∧ eqv kI M l ∧ Arr w' g M) ∧ Oth g w w' := by
  have hs := stable_any g c n l w hF hn hl hA
  clear hF hA
  go_enter Try.func66, Try.ntmps66
  go_wp2_with (go_at_call 74; refine hs.mono ?_; rintro e w2 ⟨⟨v, rfl⟩, ⟨M, m1, m2, m3, m4⟩, k2⟩; replace m1 : Hid (M.length = n) := m1; replace m2 : Hid (srt kI M) := m2; replace m3 : Hid (eqv kI M l) := m3; replace m4 : Hid (Arr w2 g M) := m4)
  go_end0
  exact ⟨⟨_, rfl⟩, ⟨M, m1.out, m2.out, m3.out, m4.out⟩, k2⟩
end Go.Proofs.Ytjiflgdbgpegiaa
