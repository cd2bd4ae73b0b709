import Derived.Test.YtjiflgdbgpegiaaSB2
import Derived.Deep.QuietTactic
set_option linter.unusedVariables false
set_option linter.unusedSimpArgs false
namespace Go.Proofs.Ytjiflgdbgpegiaa
open Go.RowKit
attribute [local go_sem] run_store_float
/-- The key of a number, as a whole number. -/
def kI (x : Nat) : Int := ((key x : Nat) : Int)
def F64 (l : List Nat) : Prop := ∀ x ∈ l, x < 18446744073709551616
theorem F64.at {l : List Nat} (h : F64 l) (i : Nat) (hi : i < l.length) : l.getD i 0 < 18446744073709551616 := h _ (by simp [List.getD, hi])
/-- Whether one comes ahead of another, as the program asks it. -/
theorem cmpI_lt (x y : Nat) : decide (cmpV (key x) (key y) < 0) = decide (kI x < kI y) := by
  unfold cmpV kI
  by_cases h : key x < key y
  · rw [if_pos h]; simp; exact h
  · rw [if_neg h]
    have : ¬ ((key x : Nat) : Int) < ((key y : Nat) : Int) := by omega
    rw [decide_eq_false this]
    split <;> decide
set_option maxRecDepth 100000 in
set_option maxHeartbeats 4000000 in
theorem insertion_any (g c : Nat) (P X Q : List Nat) (w : World) (hF : F64 (P ++ (X ++ Q))) (hl : (P ++ (X ++ Q)).length ≤ 17592186044416) (hA : Arr w g (P ++ (X ++ Q))) :
    Calls Try.prog 78 #[.slice (some ⟨g, 0, none⟩) (P ++ (X ++ Q)).length c, .int .i64 (P.length : Int), .int .i64 ((P.length + X.length : Nat) : Int), cmpF] w fun e w' => (∃ v, e = .returned v) ∧ (∃ M, M.length = X.length ∧ srt kI M ∧ eqv kI M X ∧ Arr w' g (P ++ (M ++ Q))) ∧ Oth g w w' := by
  obtain ⟨n, hn⟩ : ∃ n, (P ++ (X ++ Q)).length = n := ⟨_, rfl⟩
  have HN : Hid (P.length + X.length + Q.length = n) := by show _ = _; rw [← hn]; simp; omega
  obtain ⟨a, ha⟩ : ∃ a, P.length = a := ⟨_, rfl⟩
  have HA : Hid (P.length = a) := ha
  obtain ⟨b, hb⟩ : ∃ b, a + X.length = b := ⟨_, rfl⟩
  have HB : Hid (a + X.length = b) := hb
  have hbn : b ≤ n := by have := HN.out; have := HA.out; omega
  rw [hn] at hl ⊢
  rw [ha, hb]
  replace hF : Hid _ := hF
  replace hA : Hid _ := hA
  clear hn ha hb
  have han : a ≤ 17592186044416 := by have := HN.out; have := HA.out; omega
  by_cases hX : b ≤ a
  · have HX : Hid (X = []) := by
      show _ = _
      have := HB.out
      exact List.eq_nil_of_length_eq_zero (by omega)
    have c1 : ¬ (a : Int) + 1 < (b : Int) := by omega
    go_enter Try.func78, Try.ntmps78
    go_wp2_with fail
    go_loopw [8] (fun iv wr => iv = .int .i64 ((a : Int) + 1) ∧ wr = w) (fun iv _ => 0)
    case atStart => exact ⟨rfl, rfl⟩
    case round =>
      obtain ⟨rfl, rfl⟩ := hrel
      go_wp2_with fail
      go_end0
      refine ⟨⟨_, rfl⟩, ⟨[], ?_, List.Pairwise.nil, ?_, ?_⟩, Oth.refl _ _⟩
      · rw [HX.out]
      · rw [HX.out]; exact eqv.refl _
      · have := hA.out; rw [HX.out] at this; exact this
  · obtain ⟨x0, X0, hX0⟩ : ∃ x0 X0, X = x0 :: X0 := by
      cases X with
      | nil => have := HB.out; simp at this; omega
      | cons x0 X0 => exact ⟨x0, X0, rfl⟩
    have hA0 : Hid (Arr w g (P ++ ([x0] ++ (X0 ++ Q)))) := by
      have := hA.out
      rw [hX0] at this
      exact this
    have HX : Hid (X = x0 :: X0) := hX0
    have HF : Hid (∀ M R, eqv kI (M ++ R) X → F64 (P ++ (M ++ (R ++ Q)))) := by
      intro M R he x hx
      have h0 := hF.out x
      rcases List.mem_append.1 hx with q | q
      · exact h0 (by simp [q])
      · rw [← List.append_assoc] at q
        rcases List.mem_append.1 q with q | q
        · exact h0 (by simp [he.mem q])
        · exact h0 (by simp [q])
    have hab : a < b := by omega
    clear hX hX0 hA
    go_enter Try.func78, Try.ntmps78
    go_wp2_with fail
    go_loopw [8] (fun iv wr => ∃ (i : Nat) (M R : List Nat), iv = .int .i64 (i : Int) ∧ i ≤ b ∧ Hid (a + M.length = i ∧ 1 ≤ M.length ∧ M.length + R.length = X.length ∧ srt kI M ∧ eqv kI (M ++ R) X) ∧ Hid (Arr wr g (P ++ (M ++ (R ++ Q)))) ∧ Oth g w wr) (fun iv _ => b - (intOf iv).toNat)
    case atStart => exact ⟨a + 1, [x0], X0, by go_num, by omega, ⟨by simp, by simp, by rw [HX.out]; simp; omega, List.pairwise_singleton _ _, by rw [HX.out]; exact eqv.refl _⟩, hA0, Oth.refl _ _⟩
    case round =>
      obtain ⟨i, M, R, rfl, hi, hI, hR, ko⟩ := hrel
      obtain ⟨wo, hwo⟩ : ∃ wo, wo = wr := ⟨_, rfl⟩
      subst hwo
      by_cases hib : i < b
      · have hic : (i : Int) < (b : Int) := by omega
        obtain ⟨x, R', hR'⟩ : ∃ x R', R = x :: R' := by
          cases R with
          | nil => have h1 := hI.out; have h2 := HB.out; simp at h1; omega
          | cons x R' => exact ⟨x, R', rfl⟩
        have hI2 : Hid (a + M.length = i ∧ 1 ≤ M.length ∧ M.length + R'.length + 1 = X.length ∧ srt kI M ∧ eqv kI (M ++ (x :: R')) X) := by
          have := hI.out
          rw [hR'] at this
          exact ⟨this.1, this.2.1, by have := this.2.2.1; simp at this; omega, this.2.2.2.1, this.2.2.2.2⟩
        have hR2 : Hid (Arr wo g (P ++ (M ++ (x :: ([] ++ (R' ++ Q)))))) := by
          have := hR.out
          rw [hR'] at this
          exact this
        have HIB : Hid (i < b) := hib
        clear hI hR hR' hib hi
        go_wp2_with fail
        go_loopw [9] (fun jv wr => ∃ (j : Nat) (M1 M2 : List Nat), jv = .int .i64 (j : Int) ∧ a ≤ j ∧ j ≤ i ∧ Hid (a + M1.length = j ∧ M = M1 ++ M2 ∧ ∀ y ∈ M2, kI x < kI y) ∧ Hid (Arr wr g (P ++ (M1 ++ (x :: (M2 ++ (R' ++ Q)))))) ∧ Oth g wo wr) (fun jv _ => (intOf jv).toNat)
        case atStart => exact ⟨i, M, [], rfl, by have := hI2.out; omega, by omega, ⟨hI2.out.1, by simp, by simp⟩, hR2, Oth.refl _ _⟩
        case round =>
          obtain ⟨j, M1, M2, rfl, haj, hji, hJ, hW, kj⟩ := hrel
          have hjn : j < n := by have := HIB.out; omega
          have HL : Hid ((P ++ (M1 ++ (x :: (M2 ++ (R' ++ Q))))).length = n) := by
            show _ = _
            have h1 := HN.out; have h2 := HA.out; have h3 := HB.out; have h4 := hI2.out; have h5 := hJ.out
            have h6 := congrArg List.length h5.2.1
            simp at h6 ⊢
            omega
          have HEND : Hid (∀ wz, Arr wz g (P ++ (M1 ++ (x :: (M2 ++ (R' ++ Q))))) → (∀ y ∈ M1, kI y ≤ kI x) → (a + (M1 ++ x :: M2).length = i + 1 ∧ 1 ≤ (M1 ++ x :: M2).length ∧ (M1 ++ x :: M2).length + R'.length = X.length ∧ srt kI (M1 ++ x :: M2) ∧ eqv kI ((M1 ++ x :: M2) ++ R') X) ∧ Arr wz g (P ++ ((M1 ++ x :: M2) ++ (R' ++ Q)))) := by
            intro wz hz hle
            have h4 := hI2.out; have h5 := hJ.out
            have h6 := congrArg List.length h5.2.1
            have hs := h4.2.2.2.1
            rw [h5.2.1] at hs
            obtain ⟨p1, p2⟩ := put_right hs hle h5.2.2
            simp only [List.length_append] at h6
            refine ⟨⟨by simp; omega, by simp; omega, by simp; omega, p1, ?_⟩, by simpa [List.append_assoc] using hz⟩
            have h7 := p2.app (eqv.refl (key := kI) R')
            rw [← h5.2.1] at h7
            refine h7.trans ?_
            have := h4.2.2.2.2
            simpa [List.append_assoc] using this
          by_cases hja : a < j
          · obtain ⟨M1', y, hM1⟩ : ∃ M1' y, M1 = M1' ++ [y] := by
              rcases List.eq_nil_or_concat M1 with q | ⟨q, z, e⟩
              · have := hJ.out.1; rw [q] at this; simp at this; omega
              · exact ⟨q, z, by rw [e]; simp⟩
            have hW2 := hW.out
            have cx := hW2.cell (j := j) (by rw [HL.out]; exact hjn)
            have cy := hW2.cell (j := j - 1) (by rw [HL.out]; omega)
            have fx := hW2.frozen j
            have fy := hW2.frozen (j - 1)
            have hj1 : P.length + M1'.length = j - 1 := by have h1 := hJ.out.1; have h2 := HA.out; rw [hM1] at h1; simp at h1; omega
            have ex : (P ++ (M1 ++ (x :: (M2 ++ (R' ++ Q))))).getD j 0 = x := by
              rw [hM1, getD_right 0 P _ (by omega), List.append_assoc, getD_right 0 M1' _ (by omega), List.singleton_append, show j - P.length - M1'.length = 1 by omega]; rfl
            have ey : (P ++ (M1 ++ (x :: (M2 ++ (R' ++ Q))))).getD (j - 1) 0 = y := by
              rw [hM1, getD_right 0 P _ (by omega), List.append_assoc, getD_right 0 M1' _ (by omega), List.singleton_append, show j - 1 - P.length - M1'.length = 0 by omega]; rfl
            have EX : Hid ((P ++ (M1 ++ (x :: (M2 ++ (R' ++ Q))))).getD j 0 = x) := ex
            have EY0 : Hid ((P ++ (M1 ++ (x :: (M2 ++ (R' ++ Q))))).getD (j - 1) 0 = y) := ey
            rw [ex] at cx
            rw [ey] at cy
            have hsw : ((P ++ (M1 ++ (x :: (M2 ++ (R' ++ Q))))).set j y).set (j - 1) x = P ++ (M1' ++ (x :: ((y :: M2) ++ (R' ++ Q)))) := by
              have h1 := set_two (P ++ M1') y x (M2 ++ (R' ++ Q))
              rw [List.length_append, hj1, show j - 1 + 1 = j by omega] at h1
              rw [List.set_comm _ _ (by omega), hM1]
              simpa [List.append_assoc] using h1
            have hx64 : x < 18446744073709551616 := HF.out M (x :: R') hI2.out.2.2.2.2 x (by simp)
            have hy64 : y < 18446744073709551616 := HF.out M (x :: R') hI2.out.2.2.2.2 y (by rw [hJ.out.2.1, hM1]; simp)
            have hCmp := fun wx => Compare_any x y wx hx64 hy64
            have c1 : decide ((j : Int) > (a : Int)) = true := decide_eq_true (by omega)
            have c1n : a < j := hja
            have c2 : (j : Int) < (n : Int) := by omega
            have hjm : IntKind.i64.wrap ((j : Int) - 1) = ((j - 1 : Nat) : Int) := by rw [IntWalk.i64_left, show (j : Int) - 1 = ((j - 1 : Nat) : Int) by omega]; exact IntWalk.wrap64_in _ (by omega)
            have c3 : ((j - 1 : Nat) : Int) < (n : Int) := by omega
            have hcl := cmpI_lt x y
            obtain ⟨jm, hjmm⟩ : ∃ jm, j - 1 = jm := ⟨_, rfl⟩
            have HJM : Hid (jm + 1 = j) := by show _ = _; omega
            have EY : Hid ((P ++ (M1 ++ (x :: (M2 ++ (R' ++ Q))))).getD jm 0 = y) := by rw [← hjmm]; exact EY0
            rw [hjmm] at hjm c3 cy fy hsw
            generalize cmpV (key x) (key y) = r at hCmp hcl
            by_cases hlt : kI x < kI y
            · rw [decide_eq_true hlt] at hcl
              have HJ2 : Hid (a + M1'.length = jm ∧ M = M1' ++ (y :: M2) ∧ ∀ z ∈ (y :: M2), kI x < kI z) := by
                have h5 := hJ.out
                have h8 := HJM.out
                refine ⟨by have := h5.1; rw [hM1] at this; simp at this; omega, by rw [h5.2.1, hM1]; simp, ?_⟩
                intro z hz
                rcases List.mem_cons.1 hz with rfl | hz
                · exact hlt
                · exact h5.2.2 z hz
              have HSW : Hid (((P ++ (M1 ++ (x :: (M2 ++ (R' ++ Q))))).set j y).set jm x = P ++ (M1' ++ (x :: ((y :: M2) ++ (R' ++ Q))))) := hsw
              clear hlt hW2 ex ey hsw hM1 hJ HEND hj1 hjmm hja hx64 hy64
              go_wp2_with fail
              refine wp_region_quiet_lit (by kernel_rfl) (by kernel_rfl) ?_
              iterate 17
                with_reducible refine wpQuiet_step ?_
                intro K hK
                go_simp
                first
                  | (with_reducible refine hK _ ?_; clear hK K)
                  | (with_reducible refine (if_neg ?_).mpr (hK _ ?_)
                     · decide
                     clear hK K)
                  | (refine ⟨.int .i64 r, fun aw => (hCmp _).mono ?_, hK _ ?_⟩
                     · rintro e w' ⟨rfl, rfl⟩; exact ⟨rfl, _, rfl⟩
                     clear hK K)
                  | (apply Exists.intro
                     refine ⟨fun _ => ?_, hK _ ?_⟩
                     · with_reducible rfl
                     clear hK K)
              refine wpQuiet_nil ?_
              rintro _ ⟨nq, rfl⟩
              have hWv := hW.out.drewN nq
              have kv := kj.drewN nq
              generalize wr.drewN nq = wv at hWv kv ⊢
              clear cx cy fx fy
              have cx := hWv.cell (j := j) (by rw [HL.out]; exact hjn)
              have cy := hWv.cell (j := jm) (by rw [HL.out]; have := HJM.out; omega)
              have fx := hWv.frozen j
              have fy := hWv.frozen jm
              rw [EX.out] at cx
              rw [EY.out] at cy
              obtain ⟨q1, q2⟩ := hWv.swap kv j jm (x := x) (y := y)
              rw [HSW.out] at q1
              replace q1 : Hid _ := q1
              replace q2 : Hid _ := q2
              clear hWv kv hW
              have hne : j ≠ jm := by have := HJM.out; omega
              go_wp2_with fail
              go_region
              all_goals
                go_wp2_with fail
                refine ⟨⟨jm, M1', y :: M2, rfl, by have := HJ2.out; omega, by have := HJM.out; omega, HJ2, Arr.drew q1.out, Oth.drew q2.out⟩, ?_⟩
                have := HJM.out
                simp [intOf]
                omega
            · rw [decide_eq_false hlt] at hcl
              have HLE : Hid (∀ z ∈ M1, kI z ≤ kI x) := by
                intro z hz
                have hs := hI2.out.2.2.2.1
                rw [hJ.out.2.1, hM1] at hs
                have hs1 := (List.pairwise_append.1 hs).1
                rw [hM1] at hz
                rcases List.mem_append.1 hz with q | q
                · have := (List.pairwise_append.1 hs1).2.2 z q y (by simp)
                  omega
                · rw [List.mem_singleton.1 q]; omega
              clear hlt hW2 ex ey hsw hM1 hJ hj1 hjmm hja hx64 hy64
              go_wp2_with fail
              refine wp_region_quiet_lit (by kernel_rfl) (by kernel_rfl) ?_
              iterate 17
                with_reducible refine wpQuiet_step ?_
                intro K hK
                go_simp
                first
                  | (with_reducible refine hK _ ?_; clear hK K)
                  | (with_reducible refine (if_neg ?_).mpr (hK _ ?_)
                     · decide
                     clear hK K)
                  | (refine ⟨.int .i64 r, fun aw => (hCmp _).mono ?_, hK _ ?_⟩
                     · rintro e w' ⟨rfl, rfl⟩; exact ⟨rfl, _, rfl⟩
                     clear hK K)
                  | (apply Exists.intro
                     refine ⟨fun _ => ?_, hK _ ?_⟩
                     · with_reducible rfl
                     clear hK K)
              refine wpQuiet_nil ?_
              rintro _ ⟨nq, rfl⟩
              go_wp2_with fail
              obtain ⟨z1, z2⟩ := HEND.out _ (hW.out.drewN nq) HLE.out
              refine ⟨⟨i + 1, M1 ++ x :: M2, R', by go_num, by have := HIB.out; omega, z1, z2, (ko.trans kj).drewN nq⟩, ?_⟩
              have := HIB.out
              simp [intOf]
              omega
          · have c1 : decide ((j : Int) > (a : Int)) = false := decide_eq_false (by omega)
            have c1n : ¬ a < j := hja
            have HLE : Hid (∀ z ∈ M1, kI z ≤ kI x) := by
              intro z hz
              have := hJ.out.1
              have : M1 = [] := List.eq_nil_of_length_eq_zero (by omega)
              rw [this] at hz
              cases hz
            clear hja hJ
            go_wp2_with fail
            refine wp_region_quiet_lit (by kernel_rfl) (by kernel_rfl) ?_
            iterate 17
              with_reducible refine wpQuiet_step ?_
              intro K hK
              go_simp
              first
                | (with_reducible refine hK _ ?_; clear hK K)
                | (with_reducible refine (if_neg ?_).mpr (hK _ ?_)
                   · decide
                   clear hK K)
                | (apply Exists.intro
                   refine ⟨fun _ => ?_, hK _ ?_⟩
                   · with_reducible rfl
                   clear hK K)
            refine wpQuiet_nil ?_
            rintro _ ⟨nq, rfl⟩
            go_wp2_with fail
            obtain ⟨z1, z2⟩ := HEND.out _ (hW.out.drewN nq) HLE.out
            refine ⟨⟨i + 1, M1 ++ x :: M2, R', by go_num, by have := HIB.out; omega, z1, z2, (ko.trans kj).drewN nq⟩, ?_⟩
            have := HIB.out
            simp [intOf]
            omega
      · have hic : ¬ (i : Int) < (b : Int) := by omega
        have hRn : Hid (R = []) := by
          show _ = _
          have h1 := hI.out; have h2 := HB.out
          exact List.eq_nil_of_length_eq_zero (by omega)
        go_wp2_with fail
        go_end0
        have h1 := hI.out
        have h2 := hR.out
        rw [hRn.out] at h1 h2
        exact ⟨⟨_, rfl⟩, ⟨M, by simpa using h1.2.2.1, h1.2.2.2.1, by simpa using h1.2.2.2.2, h2⟩, ko⟩
end Go.Proofs.Ytjiflgdbgpegiaa
