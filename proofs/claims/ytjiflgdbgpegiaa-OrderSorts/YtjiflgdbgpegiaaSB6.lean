import Derived.Test.YtjiflgdbgpegiaaSB5
set_option linter.unusedVariables false
set_option linter.unusedSimpArgs false
namespace Go.Proofs.Ytjiflgdbgpegiaa
open Go.RowKit
attribute [local go_sem] run_store_float
set_option maxRecDepth 100000 in
set_option maxHeartbeats 2000000 in
/-- One item merged with those ahead of it. -/
theorem sym_right (g c n a m b y : Nat) (P A Q : List Nat) (w : World) (hF : F64 (P ++ (A ++ (y :: Q)))) (hn : (P ++ (A ++ (y :: Q))).length = n) (hl : n ≤ 17592186044416) (ha : P.length = a) (hm : a + A.length = m) (hb : m + 1 = b) (hA1 : A.length ≠ 1) (hs : srt kI A) (hA : Arr w g (P ++ (A ++ (y :: Q)))) :
    Calls Try.prog 79 #[.slice (some ⟨g, 0, none⟩) n c, .int .i64 (a : Int), .int .i64 (m : Int), .int .i64 (b : Int), cmpF] w fun e w' => (∃ v, e = .returned v) ∧ (∃ M, M.length = A.length + 1 ∧ srt kI M ∧ eqv kI M (A ++ [y]) ∧ Arr w' g (P ++ (M ++ Q))) ∧ Oth g w w' := by
  have HN : Hid (P.length + A.length + Q.length + 1 = n) := by show _ = _; rw [← hn]; simp; omega
  have hd0 : ((m : Int) - (a : Int) == 1) = false := by rw [beq_eq_false_iff_ne]; omega
  have hd1 : ((b : Int) - (m : Int) == 1) = true := by rw [beq_iff_eq]; omega
  have hbn : b ≤ n := by have := HN.out; omega
  have hmb : m < b := by omega
  have ham : a ≤ m := by omega
  have HP : Hid (P.length = a ∧ a + A.length = m ∧ m + 1 = b) := ⟨ha, hm, hb⟩
  have EM : Hid ((P ++ (A ++ (y :: Q))).getD m 0 = y) := by
    show _ = _
    rw [getD_right 0 P _ (by omega), getD_right 0 A _ (by omega), show m - P.length - A.length = 0 by omega]; rfl
  have EA : Hid (∀ u, u < A.length → (P ++ (A ++ (y :: Q))).getD (a + u) 0 = A.getD u 0) := by
    intro u hu
    rw [getD_right 0 P _ (by omega), show a + u - P.length = u by omega, getD_left 0 _ _ hu]
  have hy64 : y < 18446744073709551616 := hF y (by simp)
  have HA64 : Hid (∀ u, u < A.length → A.getD u 0 < 18446744073709551616) := by
    intro u hu
    exact hF _ (by simp [List.getD, hu])
  replace hn : Hid _ := hn
  replace hA : Hid (Arr w g (P ++ (A ++ (y :: Q)))) := hA
  replace hs : Hid _ := hs
  clear ha hm hb hF hA1
  go_enter Try.func79, Try.ntmps79
  go_wp2_with fail
  go_loopw [14, 15] (fun iv jv wr => ∃ s t : Nat, iv = .int .i64 ((a + s : Nat) : Int) ∧ jv = .int .i64 ((a + t : Nat) : Int) ∧ s ≤ t ∧ a + t ≤ m ∧ Hid (∀ u, u < s → kI (A.getD u 0) ≤ kI y) ∧ Hid (∀ u, t ≤ u → u < A.length → kI y < kI (A.getD u 0)) ∧ ∃ q, wr = w.drewN q) (fun iv jv _ => (intOf jv).toNat - (intOf iv).toNat)
  case atStart =>
    have h := HP.out
    exact ⟨0, A.length, rfl, by rw [h.2.1], by omega, by omega, fun u hu => by omega, fun u h1 h2 => by omega, 0, rfl⟩
  case round =>
    obtain ⟨s, t, rfl, rfl, hst, htb, H1, H2, q, rfl⟩ := hrel
    by_cases hlt : s < t
    · have hltc : ((a + s : Nat) : Int) < ((a + t : Nat) : Int) := by omega
      obtain ⟨u, hu⟩ : ∃ u, (s + t) / 2 = u := ⟨_, rfl⟩
      obtain ⟨h, hh0⟩ : ∃ h, a + u = h := ⟨_, rfl⟩
      have HH : Hid (a + u = h ∧ s ≤ u ∧ u < t) := ⟨hh0, by omega, by omega⟩
      have hh : ((a : Int) + (s : Int) + ((a : Int) + (t : Int))) / 2 = (h : Int) := by omega
      have hhn : h < n := by omega
      have hhc : (h : Int) < (n : Int) := by omega
      have hmc : (m : Int) < (n : Int) := by omega
      have huA : u < A.length := by have := HP.out; omega
      have cm := Arr.cell hA.out (j := m) (by rw [hn.out]; omega)
      have ch := Arr.cell hA.out (j := h) (by rw [hn.out]; omega)
      rw [EM.out] at cm
      rw [← hh0, EA.out u huA, hh0] at ch
      have hCmp := fun wx => Compare_any y (A.getD u 0) wx hy64 (HA64.out u huA)
      have hcl := cmpI_lt y (A.getD u 0)
      have HU : Hid (u < A.length) := huA
      obtain ⟨z, hz⟩ : ∃ z, A.getD u 0 = z := ⟨_, rfl⟩
      have HZ : Hid (A.getD u 0 = z) := hz
      rw [hz] at ch hCmp hcl
      generalize cmpV (key y) (key z) = r at hCmp hcl
      clear hu hh0 huA hz
      by_cases hk : kI y < kI z
      · rw [decide_eq_true hk] at hcl
        have HK : Hid (kI y < kI z) := hk
        clear hk
        go_wp2_with fail
        refine wp_region_quiet_lit (by kernel_rfl) (by kernel_rfl) ?_
        iterate 12
          with_reducible refine wpQuiet_step ?_
          intro K hK
          go_simp
          first
            | (with_reducible refine hK _ ?_; clear hK K)
            | (with_reducible refine (if_neg ?_).mpr (hK _ ?_)
               · decide
               clear hK K)
            | (refine ⟨.int .i64 r, fun aw => (hCmp _).mono ?_, hK _ ?_⟩
               · rintro e w' ⟨rfl, rfl⟩; exact ⟨rfl, _, rfl⟩
               clear hK K)
            | (apply Exists.intro
               refine ⟨fun _ => ?_, hK _ ?_⟩
               · with_reducible rfl
               clear hK K)
        refine wpQuiet_nil ?_
        rintro _ ⟨nq, rfl⟩
        go_wp2_with fail
        refine ⟨⟨s, u, rfl, by have := HH.out; go_num, by have := HH.out; omega, by have := HH.out; omega, H1, ?_, q + nq, by simp [World.drewN, Nat.add_assoc]⟩, ?_⟩
        · intro x h1 h2
          have h3 := srt_get hs.out 0 (i := u) (j := x) h1 h2
          rw [HZ.out] at h3
          have := HK.out
          omega
        · have := HH.out; simp [intOf]; omega
      · rw [decide_eq_false hk] at hcl
        have HK : Hid (¬ kI y < kI z) := hk
        clear hk
        go_wp2_with fail
        refine wp_region_quiet_lit (by kernel_rfl) (by kernel_rfl) ?_
        iterate 12
          with_reducible refine wpQuiet_step ?_
          intro K hK
          go_simp
          first
            | (with_reducible refine hK _ ?_; clear hK K)
            | (with_reducible refine (if_neg ?_).mpr (hK _ ?_)
               · decide
               clear hK K)
            | (refine ⟨.int .i64 r, fun aw => (hCmp _).mono ?_, hK _ ?_⟩
               · rintro e w' ⟨rfl, rfl⟩; exact ⟨rfl, _, rfl⟩
               clear hK K)
            | (apply Exists.intro
               refine ⟨fun _ => ?_, hK _ ?_⟩
               · with_reducible rfl
               clear hK K)
        refine wpQuiet_nil ?_
        rintro _ ⟨nq, rfl⟩
        go_wp2_with fail
        refine ⟨⟨u + 1, t, by have := HH.out; go_num, rfl, by have := HH.out; omega, htb, ?_, H2, q + nq, by simp [World.drewN, Nat.add_assoc]⟩, ?_⟩
        · intro x hx
          have h1 := srt_get hs.out 0 (i := x) (j := u) (by omega) HU.out
          rw [HZ.out] at h1
          have := HK.out
          omega
        · have := HH.out; simp [intOf]; omega
    · have hltc : ¬ ((a + s : Nat) : Int) < ((a + t : Nat) : Int) := by omega
      obtain rfl : s = t := by omega
      have HS : Hid (s ≤ A.length) := by have := HP.out; show _ ≤ _; omega
      have hA2 : Hid (Arr (w.drewN q) g (P ++ (A.take A.length ++ (y :: (A.drop A.length ++ Q))))) := by
        rw [List.take_length, List.drop_length]
        exact Arr.drewN hA.out q
      have kA2 : Oth g w (w.drewN q) := (Oth.refl g w).drewN q
      generalize w.drewN q = wv at hA2 kA2 ⊢
      have hmA : m = a + A.length := HP.out.2.1.symm
      obtain ⟨na, hna⟩ : ∃ na, A.length = na := ⟨_, rfl⟩
      have HNA : Hid (A.length = na ∧ a + na = m) := ⟨hna, by omega⟩
      rw [hna] at hA2 HS
      clear hna hmA
      go_wp2_with fail
      go_loopw [17] (fun kv wr => ∃ v : Nat, kv = .int .i64 ((a + v : Nat) : Int) ∧ s ≤ v ∧ v ≤ na ∧ Hid (Arr wr g (P ++ (A.take v ++ (y :: (A.drop v ++ Q))))) ∧ Oth g w wr) (fun kv _ => (intOf kv).toNat)
      case atStart => exact ⟨na, by rw [HNA.out.2], HS.out, by omega, hA2, kA2⟩
      case round =>
        obtain ⟨v, rfl, hv, hvn, hW, kw⟩ := hrel
        by_cases hvs : s < v
        · have hvc : ((a + v : Nat) : Int) > ((a + s : Nat) : Int) := by omega
          obtain ⟨v', hv'⟩ : ∃ v', v = v' + 1 := ⟨v - 1, by omega⟩
          subst hv'
          have hvA : v' < A.length := by have := HNA.out; omega
          obtain ⟨z, hz⟩ : ∃ z, A.getD v' 0 = z := ⟨_, rfl⟩
          have hdr : A.drop v' = z :: A.drop (v' + 1) := by
            rw [List.drop_eq_getElem_cons hvA, ← hz]; simp [List.getD, hvA]
          have htk : A.take (v' + 1) = A.take v' ++ [z] := by
            rw [List.take_add_one, ← hz]; simp [List.getD, hvA]
          have hW2 : Arr wr g (P ++ (A.take v' ++ (z :: (y :: (A.drop (v' + 1) ++ Q))))) := by
            have := hW.out
            rw [htk] at this
            simpa only [List.append_assoc, List.cons_append, List.nil_append] using this
          obtain ⟨k, hk⟩ : ∃ k, a + v' = k := ⟨_, rfl⟩
          have hpl : (P ++ A.take v').length = k := by have := HP.out; simp; omega
          have hL2 : (P ++ (A.take v' ++ (z :: (y :: (A.drop (v' + 1) ++ Q))))).length = n := by have := HN.out; simp; omega
          have hkn : k + 1 < n := by have := HN.out; have := HP.out; omega
          have cx := Arr.cell hW2 (j := k) (by omega)
          have cy := Arr.cell hW2 (j := k + 1) (by omega)
          have fx := Arr.frozen hW2 k
          have fy := Arr.frozen hW2 (k + 1)
          have ex : (P ++ (A.take v' ++ (z :: (y :: (A.drop (v' + 1) ++ Q))))).getD k 0 = z := by
            rw [← List.append_assoc, getD_right 0 _ _ (by omega), show k - (P ++ A.take v').length = 0 by omega]; rfl
          have ey : (P ++ (A.take v' ++ (z :: (y :: (A.drop (v' + 1) ++ Q))))).getD (k + 1) 0 = y := by
            rw [← List.append_assoc, getD_right 0 _ _ (by omega), show k + 1 - (P ++ A.take v').length = 1 by omega]; rfl
          rw [ex] at cx
          rw [ey] at cy
          have hsw : ((P ++ (A.take v' ++ (z :: (y :: (A.drop (v' + 1) ++ Q))))).set (k + 1) z).set k y = P ++ (A.take v' ++ (y :: (A.drop v' ++ Q))) := by
            have h1 := set_two (P ++ A.take v') z y (A.drop (v' + 1) ++ Q)
            rw [hpl] at h1
            rw [List.set_comm _ _ (by omega), hdr]
            simpa only [List.append_assoc, List.cons_append, List.nil_append] using h1
          obtain ⟨q1, q2⟩ := Arr.swap hW2 kw (k + 1) k (x := y) (y := z)
          rw [hsw] at q1
          replace q1 : Hid _ := q1
          replace q2 : Hid _ := q2
          have c1 : (k : Int) < (n : Int) := by omega
          have c2 : (k : Int) + 1 < (n : Int) := by omega
          obtain ⟨k1, hk1⟩ : ∃ k1, k + 1 = k1 := ⟨_, rfl⟩
          have HV : Hid (s < v' + 1 ∧ a + v' = k ∧ k + 1 = k1 ∧ v' + 1 ≤ na) := ⟨hvs, hk, hk1, hvn⟩
          have hsub : (k1 : Int) - 1 = (k : Int) := by omega
          have hkc : (k1 : Int) > ((a + s : Nat) : Int) := by omega
          have hk1n : (k1 : Int) < (n : Int) := by omega
          have hkk : k1 ≤ 17592186044416 := by omega
          rw [hk1] at cy fy q1 q2
          rw [show a + (v' + 1) = k1 by omega]
          clear hW hW2 hdr htk hpl hL2 ex ey hsw kw hvs hz hvA hk hv hvc hvn hk1 c2 hkn
          go_wp2_with fail
          go_region
          all_goals
            go_wp2_with fail
            refine ⟨⟨v', by have := HV.out; go_num, by have := HV.out; omega, by have := HV.out; omega, Arr.drew q1.out, Oth.drew q2.out⟩, ?_⟩
            have := HV.out
            simp [intOf]
            omega
        · have hvc : ¬ ((a + v : Nat) : Int) > ((a + s : Nat) : Int) := by omega
          obtain rfl : v = s := by omega
          go_wp2_with fail
          refine bodyPost_ret (results_none rfl _ _ _) rfl ?_
          have hna := HNA.out.1
          obtain ⟨p1, p2⟩ := put_right (key := kI) (x := y) (A1 := A.take v) (A2 := A.drop v) (by rw [List.take_append_drop]; exact hs.out) (by
            intro z hz
            obtain ⟨i, hi, rfl⟩ := List.getElem_of_mem hz
            rw [List.length_take] at hi
            rw [List.getElem_take]
            have := H1.out i (by omega)
            simpa [List.getD, show i < A.length by omega] using this) (by
            intro z hz
            obtain ⟨i, hi, rfl⟩ := List.getElem_of_mem hz
            rw [List.length_drop] at hi
            rw [List.getElem_drop]
            have := H2.out (v + i) (by omega) (by omega)
            simpa [List.getD, show v + i < A.length by omega] using this)
          rw [List.take_append_drop] at p2
          refine ⟨⟨_, rfl⟩, ⟨A.take v ++ y :: A.drop v, by simp; omega, p1, p2, ?_⟩, kw⟩
          have := hW.out
          simpa only [List.append_assoc, List.cons_append] using this
end Go.Proofs.Ytjiflgdbgpegiaa
