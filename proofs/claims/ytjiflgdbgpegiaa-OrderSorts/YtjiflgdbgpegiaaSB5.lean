import Derived.Test.YtjiflgdbgpegiaaSB4
set_option linter.unusedVariables false
set_option linter.unusedSimpArgs false
namespace Go.Proofs.Ytjiflgdbgpegiaa
open Go.RowKit
attribute [local go_sem] run_store_float
set_option maxRecDepth 100000 in
set_option maxHeartbeats 2000000 in
/-- One item merged with those behind it. -/
theorem sym_left (g c n a m b x : Nat) (P B Q : List Nat) (w : World) (hF : F64 (P ++ (x :: (B ++ Q)))) (hn : (P ++ (x :: (B ++ Q))).length = n) (hl : n ≤ 17592186044416) (ha : P.length = a) (hm : a + 1 = m) (hb : m + B.length = b) (hs : srt kI B) (hA : Arr w g (P ++ (x :: (B ++ Q)))) :
    Calls Try.prog 79 #[.slice (some ⟨g, 0, none⟩) n c, .int .i64 (a : Int), .int .i64 (m : Int), .int .i64 (b : Int), cmpF] w fun e w' => (∃ v, e = .returned v) ∧ (∃ M, M.length = B.length + 1 ∧ srt kI M ∧ eqv kI M ([x] ++ B) ∧ Arr w' g (P ++ (M ++ Q))) ∧ Oth g w w' := by
  have HN : Hid (P.length + B.length + Q.length + 1 = n) := by show _ = _; rw [← hn]; simp; omega
  have e1 : (m : Int) - (a : Int) = 1 := by omega
  have hbn : b ≤ n := by have := HN.out; omega
  have hmb : m ≤ b := by omega
  have ham : a < m := by omega
  have HP : Hid (P.length = a ∧ a + 1 = m ∧ m + B.length = b) := ⟨ha, hm, hb⟩
  have EA : Hid ((P ++ (x :: (B ++ Q))).getD a 0 = x) := by
    show _ = _
    rw [getD_right 0 P _ (by omega), show a - P.length = 0 by omega]; rfl
  have EB : Hid (∀ u, u < B.length → (P ++ (x :: (B ++ Q))).getD (m + u) 0 = B.getD u 0) := by
    intro u hu
    rw [getD_right 0 P _ (by omega), show m + u - P.length = u + 1 by omega, List.getD_cons_succ, getD_left 0 _ _ hu]
  have hx64 : x < 18446744073709551616 := hF x (by simp)
  have HB64 : Hid (∀ u, u < B.length → B.getD u 0 < 18446744073709551616) := by
    intro u hu
    exact hF _ (by simp [List.getD, hu])
  replace hn : Hid _ := hn
  replace hA : Hid (Arr w g (P ++ (x :: (B ++ Q)))) := hA
  replace hs : Hid _ := hs
  have hd1 : ((m : Int) - (a : Int) == 1) = true := by rw [e1]; rfl
  clear ha hm hb hF
  go_enter Try.func79, Try.ntmps79
  go_wp2_with fail
  go_loopw [10, 11] (fun iv jv wr => ∃ s t : Nat, iv = .int .i64 ((m + s : Nat) : Int) ∧ jv = .int .i64 ((m + t : Nat) : Int) ∧ s ≤ t ∧ m + t ≤ b ∧ Hid (∀ u, u < s → kI (B.getD u 0) < kI x) ∧ Hid (∀ u, t ≤ u → u < B.length → kI x ≤ kI (B.getD u 0)) ∧ ∃ q, wr = w.drewN q) (fun iv jv _ => (intOf jv).toNat - (intOf iv).toNat)
  case atStart => 
    have h := HP.out
    exact ⟨0, B.length, rfl, by rw [h.2.2], by omega, by omega, fun u hu => by omega, fun u h1 h2 => by omega, 0, rfl⟩
  case round =>
    obtain ⟨s, t, rfl, rfl, hst, htb, H1, H2, q, rfl⟩ := hrel
    by_cases hlt : s < t
    · have hltc : ((m + s : Nat) : Int) < ((m + t : Nat) : Int) := by omega
      obtain ⟨u, hu⟩ : ∃ u, (s + t) / 2 = u := ⟨_, rfl⟩
      obtain ⟨h, hh0⟩ : ∃ h, m + u = h := ⟨_, rfl⟩
      have HH : Hid (m + u = h ∧ s ≤ u ∧ u < t) := ⟨hh0, by omega, by omega⟩
      have hh : ((m : Int) + (s : Int) + ((m : Int) + (t : Int))) / 2 = (h : Int) := by omega
      have hhn : h < n := by omega
      have hhc : (h : Int) < (n : Int) := by omega
      have hac : (a : Int) < (n : Int) := by omega
      have huB : u < B.length := by have := HP.out; omega
      have ca := Arr.cell hA.out (j := a) (by rw [hn.out]; omega)
      have ch := Arr.cell hA.out (j := h) (by rw [hn.out]; omega)
      rw [EA.out] at ca
      rw [← hh0, EB.out u huB, hh0] at ch
      have hCmp := fun wx => Compare_any (B.getD u 0) x wx (HB64.out u huB) hx64
      have hcl := cmpI_lt (B.getD u 0) x
      have HU : Hid (u < B.length) := huB
      obtain ⟨y, hy⟩ : ∃ y, B.getD u 0 = y := ⟨_, rfl⟩
      have HY : Hid (B.getD u 0 = y) := hy
      rw [hy] at ch hCmp hcl
      generalize cmpV (key y) (key x) = r at hCmp hcl
      clear hu hh0 huB hy
      by_cases hk : kI y < kI x
      · rw [decide_eq_true hk] at hcl
        have HK : Hid (kI y < kI x) := hk
        clear hk
        go_wp2_with fail
        refine wp_region_quiet_lit (by kernel_rfl) (by kernel_rfl) ?_
        iterate 11
          with_reducible refine wpQuiet_step ?_
          intro K hK
          go_simp
          first
            | (with_reducible refine hK _ ?_; clear hK K)
            | (with_reducible refine (if_neg ?_).mpr (hK _ ?_)
               · decide
               clear hK K)
            | (refine ⟨.int .i64 r, fun aw => (hCmp _).mono ?_, hK _ ?_⟩
               · rintro e w' ⟨rfl, rfl⟩; exact ⟨rfl, _, rfl⟩
               clear hK K)
            | (apply Exists.intro
               refine ⟨fun _ => ?_, hK _ ?_⟩
               · with_reducible rfl
               clear hK K)
        refine wpQuiet_nil ?_
        rintro _ ⟨nq, rfl⟩
        go_wp2_with fail
        refine ⟨⟨u + 1, t, by have := HH.out; go_num, rfl, by have := HH.out; omega, htb, ?_, H2, q + nq, by simp [World.drewN, Nat.add_assoc]⟩, ?_⟩
        · intro z hz
          have h1 := srt_get hs.out 0 (i := z) (j := u) (by omega) HU.out
          rw [HY.out] at h1
          have := HK.out
          omega
        · have := HH.out; simp [intOf]; omega
      · rw [decide_eq_false hk] at hcl
        have HK : Hid (¬ kI y < kI x) := hk
        clear hk
        go_wp2_with fail
        refine wp_region_quiet_lit (by kernel_rfl) (by kernel_rfl) ?_
        iterate 11
          with_reducible refine wpQuiet_step ?_
          intro K hK
          go_simp
          first
            | (with_reducible refine hK _ ?_; clear hK K)
            | (with_reducible refine (if_neg ?_).mpr (hK _ ?_)
               · decide
               clear hK K)
            | (refine ⟨.int .i64 r, fun aw => (hCmp _).mono ?_, hK _ ?_⟩
               · rintro e w' ⟨rfl, rfl⟩; exact ⟨rfl, _, rfl⟩
               clear hK K)
            | (apply Exists.intro
               refine ⟨fun _ => ?_, hK _ ?_⟩
               · with_reducible rfl
               clear hK K)
        refine wpQuiet_nil ?_
        rintro _ ⟨nq, rfl⟩
        go_wp2_with fail
        refine ⟨⟨s, u, rfl, by have := HH.out; go_num, by have := HH.out; omega, by have := HH.out; omega, H1, ?_, q + nq, by simp [World.drewN, Nat.add_assoc]⟩, ?_⟩
        · intro z h1 h2
          have h3 := srt_get hs.out 0 (i := u) (j := z) h1 h2
          rw [HY.out] at h3
          have := HK.out
          omega
        · have := HH.out; simp [intOf]; omega
    · have hltc : ¬ ((m + s : Nat) : Int) < ((m + t : Nat) : Int) := by omega
      obtain rfl : s = t := by omega
      have HS : Hid (s ≤ B.length) := by have := HP.out; show _ ≤ _; omega
      have hA2 : Hid (Arr (w.drewN q) g (P ++ (B.take 0 ++ (x :: (B.drop 0 ++ Q))))) := Arr.drewN hA.out q
      have kA2 : Oth g w (w.drewN q) := (Oth.refl g w).drewN q
      generalize w.drewN q = wv at hA2 kA2 ⊢
      have ham2 : a + 1 = m := HP.out.2.1
      have HAM : Hid (a + 1 = m) := ham2
      have hms : ((m + s : Nat) : Int) - 1 = ((a + s : Nat) : Int) := by omega
      clear ham2
      go_wp2_with fail
      go_loopw [13] (fun kv wr => ∃ v : Nat, kv = .int .i64 ((a + v : Nat) : Int) ∧ v ≤ s ∧ Hid (Arr wr g (P ++ (B.take v ++ (x :: (B.drop v ++ Q))))) ∧ Oth g w wr) (fun kv _ => a + s - (intOf kv).toNat)
      case atStart => exact ⟨0, rfl, by omega, hA2, kA2⟩
      case round =>
        obtain ⟨v, rfl, hv, hW, kw⟩ := hrel
        by_cases hvs : v < s
        · have hvc : ((a + v : Nat) : Int) < ((a + s : Nat) : Int) := by omega
          have hvB : v < B.length := by have := HS.out; omega
          obtain ⟨y, hy⟩ : ∃ y, B.getD v 0 = y := ⟨_, rfl⟩
          have hdr : B.drop v = y :: B.drop (v + 1) := by
            rw [List.drop_eq_getElem_cons hvB, ← hy]; simp [List.getD, hvB]
          have htk : B.take (v + 1) = B.take v ++ [y] := by
            rw [List.take_add_one, ← hy]; simp [List.getD, hvB]
          have hW2 : Arr wr g (P ++ (B.take v ++ (x :: (y :: (B.drop (v + 1) ++ Q))))) := by
            have := hW.out
            rw [hdr] at this
            exact this
          obtain ⟨k, hk⟩ : ∃ k, a + v = k := ⟨_, rfl⟩
          have hpl : (P ++ B.take v).length = k := by have := HP.out; simp; omega
          have hL2 : (P ++ (B.take v ++ (x :: (y :: (B.drop (v + 1) ++ Q))))).length = n := by have := HN.out; simp; omega
          have hkn : k + 1 < n := by have := HN.out; have := HP.out; omega
          have cx := Arr.cell hW2 (j := k) (by omega)
          have cy := Arr.cell hW2 (j := k + 1) (by omega)
          have fx := Arr.frozen hW2 k
          have fy := Arr.frozen hW2 (k + 1)
          have ex : (P ++ (B.take v ++ (x :: (y :: (B.drop (v + 1) ++ Q))))).getD k 0 = x := by
            rw [← List.append_assoc, getD_right 0 _ _ (by omega), show k - (P ++ B.take v).length = 0 by omega]; rfl
          have ey : (P ++ (B.take v ++ (x :: (y :: (B.drop (v + 1) ++ Q))))).getD (k + 1) 0 = y := by
            rw [← List.append_assoc, getD_right 0 _ _ (by omega), show k + 1 - (P ++ B.take v).length = 1 by omega]; rfl
          rw [ex] at cx
          rw [ey] at cy
          have hsw : ((P ++ (B.take v ++ (x :: (y :: (B.drop (v + 1) ++ Q))))).set k y).set (k + 1) x = P ++ (B.take (v + 1) ++ (x :: (B.drop (v + 1) ++ Q))) := by
            have h1 := set_two (P ++ B.take v) x y (B.drop (v + 1) ++ Q)
            rw [hpl] at h1
            rw [htk]
            simpa only [List.append_assoc, List.cons_append, List.nil_append] using h1
          obtain ⟨q1, q2⟩ := Arr.swap hW2 kw k (k + 1) (x := x) (y := y)
          rw [hsw] at q1
          replace q1 : Hid _ := q1
          replace q2 : Hid _ := q2
          have c1 : (k : Int) < (n : Int) := by omega
          have c2 : (k : Int) + 1 < (n : Int) := by omega
          have HV : Hid (v < s ∧ a + v = k) := ⟨hvs, hk⟩
          have hkc : (k : Int) < ((a + s : Nat) : Int) := by omega
          rw [hk] at hvc ⊢
          clear hW hW2 hdr htk hpl hL2 ex ey hsw kw hvs hy hvB hk hv
          go_wp2_with fail
          go_region
          all_goals
            go_wp2_with fail
            refine ⟨⟨v + 1, by have := HV.out; go_num, by have := HV.out; omega, Arr.drew q1.out, Oth.drew q2.out⟩, ?_⟩
            have := HV.out
            simp [intOf]
            omega
        · have hvc : ¬ ((a + v : Nat) : Int) < ((a + s : Nat) : Int) := by omega
          obtain rfl : v = s := by omega
          go_wp2_with fail
          refine bodyPost_ret (results_none rfl _ _ _) rfl ?_
          obtain ⟨p1, p2⟩ := put_left (key := kI) (x := x) (B1 := B.take v) (B2 := B.drop v) (by rw [List.take_append_drop]; exact hs.out) (by
            intro y hy
            obtain ⟨i, hi, rfl⟩ := List.getElem_of_mem hy
            rw [List.length_take] at hi
            rw [List.getElem_take]
            have := H1.out i (by omega)
            simpa [List.getD, show i < B.length by omega] using this) (by
            intro y hy
            obtain ⟨i, hi, rfl⟩ := List.getElem_of_mem hy
            rw [List.length_drop] at hi
            rw [List.getElem_drop]
            have := H2.out (v + i) (by omega) (by omega)
            simpa [List.getD, show v + i < B.length by omega] using this)
          rw [List.take_append_drop] at p2
          have hv2 := HS.out
          refine ⟨⟨_, rfl⟩, ⟨B.take v ++ x :: B.drop v, by simp; omega, p1, p2, ?_⟩, kw⟩
          have := hW.out
          simpa only [List.append_assoc, List.cons_append] using this
end Go.Proofs.Ytjiflgdbgpegiaa
