import Derived.Test.YtodegcobkngmlaaDoorCL3
import Derived.Test.YtodegcobkngmlaaDoorCL2A
import Derived.Deep.QuietTactic
set_option linter.unusedVariables false
set_option linter.unusedSimpArgs false
namespace Go.Proofs.YtodegcobkngmlaaDoor
open Go.RowKit Go.Shelf
set_option maxRecDepth 100000 in
set_option maxHeartbeats 8000000 in
theorem whole_ok (nm : ByteArray) (fa : Option Addr) (fs : List ByteArray) (cf : Nat) (N : Int) (ba : Option Addr) (base : List Int) (cb : Nat) (ta : Option Addr) (ts : List (Int × List Nd)) (ct : Nat) (ax : Option Addr) (xs : List Nat) (cx : Nat) (out lim : Int) (w : World) (hA : EnA w nm fa fs ba base ta ts) (hcb : base.length ≤ cb) (hx : RdF w ax xs) (hxl : xs.length ≤ 17592186044416) (hc : (chB nm fs N base ts).1 = 0) (hxe : xs.length = fs.length) :
    Calls Tryd.prog 4 #[.agg (ev nm fa fs.length cf N ba base.length cb ta ts.length ct), .slice ax xs.length cx, .int .i64 out, .int .i64 lim] w fun e w' => e = .returned (.bool true) ∧ Keep w w' := by
  obtain ⟨w1, hw1, k1, t1, s1⟩ := boxed w (ev nm fa fs.length cf N ba base.length cb ta ts.length ct) 26
  have htl := hA.er.tl
  have hbl := hA.er.bl
  have R := rtE hc hxe
  have hX : exE nm fs N base ts xs.length = 0 := by unfold exE; rw [if_pos hc, if_pos hxe]
  obtain ⟨hsc, SC⟩ := scE hc hxe
  have hB := begins_any w1 (hA.tb.keep k1)
  have hV := fun wx (q : Keep w1 wx) => Valid_any nm fa fs cf N ba base cb ta ts ct wx ((hA.keep k1).keep q)
  have hS := fun wx (q : Keep w1 wx) => Score_any nm fa fs.length cf N ba base cb ta ts ct ax xs cx wx ((hA.er.rb.keep k1).keep q) hcb hA.er.bl ((hA.er.rt.keep k1).keep q) (by omega) ((hx.keep k1).keep q) hxl (by have := hA.fl; omega)
  unfold ens at hS
  have hBo : ∀ wx, Keep w1 wx → ∀ k : Nat, k ≤ ts.length → Calls Tryd.prog 8 #[.agg (ev nm fa fs.length cf N ba base.length cb ta ts.length ct), .slice ax xs.length cx, .int .i64 (k : Int)] wx fun e w' => ∃ g, e = .returned (.tuple #[.slice (some ⟨g, 0, none⟩) base.length base.length, .int .i64 0]) ∧ w'.heap[g]? = some (.cells (VB (beL base ts (vX xs) k)).toArray 37 (0, 0)) ∧ Keep wx w' := by
    intro wx q k hk
    refine (callsIn_wide.1 (Bounds_in 3 (by omega) nm fa fs cf N ba base cb ta ts ct ax xs cx (k : Int) wx ((hA.keep k1).keep q) ((hx.keep k1).keep q) hX R hxl)).mono ?_
    rintro e w' ⟨kk, ⟨-, -, g, rfl, -, hG⟩ | ⟨hno, -⟩⟩
    · exact ⟨g, rfl, by simpa using hG, kk⟩
    · exact absurd ⟨by omega, by omega⟩ hno
  rw [hsc] at hS
  rw [hc] at hV
  replace hV : ∀ wx, Keep w1 wx → Calls Tryd.prog 7 #[.agg (ev nm fa fs.length cf N ba base.length cb ta ts.length ct)] wx (fun e w' => e = .returned (.bool true) ∧ Keep wx w') := hV
  obtain ⟨sl, hsl⟩ : ∃ sl, (scS fs.length N base ts xs).1 = sl := ⟨_, rfl⟩
  rw [hsl] at hS SC
  have hlen : Hid (sl.length = base.length) := SC.len
  have hn64 : base.length ≤ 64 := R.nl
  have ht64 : ts.length ≤ 65536 := R.tl
  have hCl : ∀ wx, Keep w1 wx → Calls Tryd.prog 9 #[.agg (ev nm fa fs.length cf N ba base.length cb ta ts.length ct), .slice ax xs.length cx] wx fun e w' => ∃ c k : Nat, e = .returned (.tuple #[.int .i64 (c : Int), .int .i64 (k : Int), .int .i64 0]) ∧ (c < base.length ∧ k ≤ ts.length ∧ ∀ o, o < base.length → sl.getD o 0 ≤ sl.getD c 0 ∧ (o < c → sl.getD o 0 < sl.getD c 0)) ∧ Keep wx w' := by
    intro wx q
    refine (callsIn_wide.1 (Class_in 5 (by omega) nm fa fs cf N ba base cb ta ts ct ax xs cx wx ((hA.keep k1).keep q) ((hx.keep k1).keep q) hX R hxl)).mono ?_
    rintro e w' ⟨kk, k, hk, rfl, hd, -⟩
    have hd2 : (crF base ts (vX xs) k).2 = true := by
      rcases hd with hd | hd
      · exact hd
      · rw [hd]; exact cr_all SC R.n1
    obtain ⟨g1, g2⟩ := cr_right SC hk hd2
    exact ⟨_, k, rfl, ⟨g1, hk, g2⟩, kk⟩
  have hAb : ∀ wx, Keep w1 wx → ∀ o : Nat, o < base.length → Calls Tryd.prog 10 #[.agg (ev nm fa fs.length cf N ba base.length cb ta ts.length ct), .slice ax xs.length cx, .int .i64 (o : Int), .int .i64 lim] wx fun e w' => ∃ k : Nat, e = .returned (.tuple #[.bool (decide (sl.getD o 0 > lim)), .int .i64 (k : Int), .int .i64 0]) ∧ (k ≤ ts.length ∧ dcB base ts (vX xs) o lim k ∧ ∀ j, j < k → ¬ dcB base ts (vX xs) o lim j) ∧ Keep wx w' := by
    intro wx q o ho
    refine (callsIn_wide.1 (Above_in 3 (by omega) nm fa fs cf N ba base cb ta ts ct ax xs cx o lim wx ((hA.keep k1).keep q) ((hx.keep k1).keep q) hX R hxl (by have := R.nb; omega))).mono ?_
    rintro e w' ⟨kk, k, hk, rfl, hd, hp⟩
    have hd2 : dcB base ts (vX xs) o lim k := by
      rcases hd with hd | hd
      · exact hd
      · rw [hd]; exact dc_all SC ho lim
    refine ⟨k, ?_, ⟨hk, hd2, hp⟩, kk⟩
    rw [decide_eq_decide.2 (dc_right SC ho hk hd2)]
  clear SC
  replace hBo : Hid _ := hBo
  replace hAb : Hid _ := hAb
  clear hsl hsc hX R hc hxe
  go_enter Tryd.func4, Tryd.ntmps4
  go_wp2_with (first
    | rw [hw1]
    | (go_at_call 5; refine hB.mono ?_; rintro e w2 ⟨rfl, k2⟩; obtain ⟨y0, y1, y2, y3, y4⟩ := cells5 (k2.at t1))
    | (go_at_call 6; refine (hS w2 k2).mono ?_; rintro e w3 ⟨v, rfl, O3, k3⟩; have k13 := k2.trans k3; clear y0 y1 y2 y3 y4; obtain ⟨y0, y1, y2, y3, y4⟩ := cells5 (k13.at t1); obtain ⟨sa, scp, rfl, hscp, hsr⟩ := O3.shape; rw [hlen.out] at hscp ⊢; replace hsr : Hid _ := hsr; clear O3)
    | (go_at_call 7; refine (hV w3 k13).mono ?_; rintro e w4 ⟨rfl, k4⟩; have k14 := k13.trans k4; clear y0 y1 y2 y3 y4; obtain ⟨y0, y1, y2, y3, y4⟩ := cells5 (k14.at t1))
    | (go_at_call 9; refine (hCl w4 k14).mono ?_; rintro e w5 ⟨c, kc, rfl, ⟨hc1, hc2, hc3⟩, k5⟩; have k15 := k14.trans k5; clear y0 y1 y2 y3 y4; obtain ⟨y0, y1, y2, y3, y4⟩ := cells5 (k15.at t1)
       have f1 : decide ((c : Int) < 0) = false := decide_eq_false (by omega)
       have f2 : decide ((c : Int) ≥ (base.length : Int)) = false := decide_eq_false (by omega)
       have f2n : ¬ base.length ≤ c := by omega
       have f3 : decide ((kc : Int) < 0) = false := decide_eq_false (by omega)
       have f4 : decide ((kc : Int) > (ts.length : Int)) = false := decide_eq_false (by omega)
       have f4n : ¬ ts.length < kc := by omega
       replace hc3 : Hid _ := hc3))
  clear hB hS hV hCl hw1
  replace hc2 : Hid _ := hc2
  have HC : Hid (c < base.length) := hc1
  clear f1 f2 f2n f3 f4 f4n hc1 y0 y1 y2 y3 y4
  go_loopw [14] (fun iv wr => ∃ o : Nat, iv = .int .i64 (o : Int) ∧ o ≤ base.length ∧ Keep w5 wr) (fun iv _ => base.length - (intOf iv).toNat)
  case atStart => exact ⟨0, rfl, by omega, Keep.refl _⟩
  case round =>
    obtain ⟨o, rfl, hol, ko⟩ := hrel
    by_cases hob : o < base.length
    · have hoc : (o : Int) < (base.length : Int) := by omega
      have hcc : (c : Int) < (base.length : Int) := by have := HC.out; omega
      have HOL : Hid (o < base.length) := hob
      have hrd := RdI.keep hsr.out ((Keep.trans k4 k5).trans ko)
      obtain ⟨sb, so, rfl, c0⟩ := hrd o (by rw [hlen.out]; exact hob)
      obtain ⟨_, _, qq, c1⟩ := hrd c (by rw [hlen.out]; exact HC.out)
      cases qq
      obtain ⟨h1, h2⟩ := hc3.out o hob
      clear hrd hob
      obtain ⟨sv, hsv⟩ : ∃ sv, sl.getD o 0 = sv := ⟨_, rfl⟩
      obtain ⟨sc, hsc⟩ : ∃ sc, sl.getD c 0 = sc := ⟨_, rfl⟩
      rw [hsv] at c0 h1 h2
      rw [hsc] at c1 h1 h2
      clear hsv hsc
      have g1 : decide (sv > sc) = false := decide_eq_false (by omega)
      by_cases he : sv = sc
      · have g2 : (sv == sc) = true := by simpa using he
        have g3 : decide ((o : Int) < (c : Int)) = false := decide_eq_false (by intro q; have := h2 (by omega); omega)
        have g3n : ¬ o < c := by intro q; have := h2 q; omega
        clear h1 h2 he hol
        replace ko : Hid _ := ko
        go_wp2_with fail
        try dsimp only [List.append]
        refine wp_region_quiet_lit (by kernel_rfl) (by kernel_rfl) ?_
        iterate 13
          with_reducible refine wpQuiet_step ?_
          intro K hK
          go_simp
          first
            | (with_reducible refine hK _ ?_; clear hK K)
            | (with_reducible refine (if_neg ?_).mpr (hK _ ?_)
               · decide
               clear hK K)
            | (apply Exists.intro
               refine ⟨fun _ => ?_, hK _ ?_⟩
               · with_reducible rfl
               clear hK K)
        as_aux_lemma =>
          iterate 12
            with_reducible refine wpQuiet_step ?_
            intro K hK
            go_simp
            first
              | (with_reducible refine hK _ ?_; clear hK K)
              | (with_reducible refine (if_neg ?_).mpr (hK _ ?_)
                 · decide
                 clear hK K)
              | (apply Exists.intro
                 refine ⟨fun _ => ?_, hK _ ?_⟩
                 · with_reducible rfl
                 clear hK K)
          as_aux_lemma =>
            refine wpQuiet_nil ?_
            rintro _ ⟨nq, rfl⟩
            go_wp2_with fail
            go_roundw
            case rel => exact ⟨o + 1, by go_num, by have := HOL.out; omega, Keep.drewN (Hid.out ko) _⟩
            case measure => have := HOL.out; simp [intOf]; omega
      · have g2 : (sv == sc) = false := by simpa using he
        clear h1 h2 he hol
        replace ko : Hid _ := ko
        go_wp2_with fail
        try dsimp only [List.append]
        refine wp_region_quiet_lit (by kernel_rfl) (by kernel_rfl) ?_
        iterate 13
          with_reducible refine wpQuiet_step ?_
          intro K hK
          go_simp
          first
            | (with_reducible refine hK _ ?_; clear hK K)
            | (with_reducible refine (if_neg ?_).mpr (hK _ ?_)
               · decide
               clear hK K)
            | (apply Exists.intro
               refine ⟨fun _ => ?_, hK _ ?_⟩
               · with_reducible rfl
               clear hK K)
        as_aux_lemma =>
          iterate 12
            with_reducible refine wpQuiet_step ?_
            intro K hK
            go_simp
            first
              | (with_reducible refine hK _ ?_; clear hK K)
              | (with_reducible refine (if_neg ?_).mpr (hK _ ?_)
                 · decide
                 clear hK K)
              | (apply Exists.intro
                 refine ⟨fun _ => ?_, hK _ ?_⟩
                 · with_reducible rfl
                 clear hK K)
          as_aux_lemma =>
            refine wpQuiet_nil ?_
            rintro _ ⟨nq, rfl⟩
            go_wp2_with fail
            go_roundw
            case rel => exact ⟨o + 1, by go_num, by have := HOL.out; omega, Keep.drewN (Hid.out ko) _⟩
            case measure => have := HOL.out; simp [intOf]; omega
    · have hoc : ¬ (o : Int) < (base.length : Int) := by omega
      have k1o := k15.trans ko
      have hsr2 := RdI.keep hsr.out ((Keep.trans k4 k5).trans ko)
      obtain ⟨wo, hwo⟩ : ∃ wo, wo = wr := ⟨_, rfl⟩
      subst hwo
      clear hol hc3 HC hc2 hob
      by_cases ho1 : out < 0
      · have m1 : decide (out < 0) = true := decide_eq_true ho1
        clear ho1
        go_wp2_with fail
        go_ret
        exact ⟨rfl, k1.trans k1o⟩
      · by_cases ho2 : out ≥ (base.length : Int)
        · have m1 : decide (out < 0) = false := decide_eq_false ho1
          have m2 : decide (out ≥ (base.length : Int)) = true := decide_eq_true ho2
          clear ho1 ho2
          go_wp2_with fail
          go_ret
          exact ⟨rfl, k1.trans k1o⟩
        · obtain ⟨u, rfl⟩ : ∃ u : Nat, out = (u : Int) := ⟨out.toNat, by omega⟩
          have hul : u < base.length := by omega
          have m1 : decide ((u : Int) < 0) = false := decide_eq_false ho1
          have m2 : decide ((u : Int) ≥ (base.length : Int)) = false := decide_eq_false ho2
          have m2n : ¬ base.length ≤ u := by omega
          have m3 : (u : Int) < (base.length : Int) := by omega
          have hAb6 := hAb.out wo k1o u hul
          obtain ⟨z0, z1, z2, z3, z4⟩ := cells5 (k1o.at t1)
          clear ho1 ho2
          obtain ⟨sb, so, rfl, c0⟩ := hsr2 u (by rw [hlen.out]; exact hul)
          obtain ⟨sv, hsv⟩ : ∃ sv, sl.getD u 0 = sv := ⟨_, rfl⟩
          rw [hsv] at c0 hAb6
          clear hsv hsr2
          have HU : Hid (u < base.length) := hul
          clear hul
          have kL := beL_len base ts (vX xs)
          by_cases hlt : lim < sv
          · have m4 : decide (sv > lim) = true := decide_eq_true hlt
            rw [m4] at hAb6
            go_wp2_with (go_at_call 10; refine hAb6.mono ?_; rintro e w7 ⟨k, rfl, ⟨hk, hd, hp⟩, k7⟩
                         have k17 := k1o.trans k7
                         clear z0 z1 z2 z3 z4
                         obtain ⟨z0, z1, z2, z3, z4⟩ := cells5 (k17.at t1)
                         have c0' := k7.cell c0
                         have n1 : decide ((k : Int) < 0) = false := decide_eq_false (by omega)
                         have n2 : decide ((k : Int) > (ts.length : Int)) = false := decide_eq_false (by omega)
                         have n2n : ¬ ts.length < k := by omega
                         replace hd : Hid _ := hd
                         replace hp : Hid _ := hp
                         have hk9 : k ≤ 65536 := by omega
                         replace hk : Hid _ := hk)
            refine (hBo.out w7 k17 k hk.out).mono ?_
            rintro e w8 ⟨g, rfl, hG, k8⟩
            have k18 := k17.trans k8
            clear z0 z1 z2 z3 z4 c0 c0' n1 n2 n2n
            obtain ⟨z0, z1, z2, z3, z4⟩ := cells5 (k18.at t1)
            obtain ⟨⟨lo, hi⟩, hlh⟩ : ∃ ab, (beL base ts (vX xs) k).getD u (0, 0) = ab := ⟨_, rfl⟩
            obtain ⟨d0, d1⟩ := VB_at hG (by rw [kL]; exact HU.out) hlh
            have hdd := hd.out
            unfold dcB at hdd
            rw [hlh] at hdd
            simp only at hdd
            clear hlh
            have hq : (decide (lo > lim) = true) ∨ (decide (lo > lim) = false ∧ decide (hi ≤ lim) = true) := by
              by_cases q : lo > lim
              · exact .inl (decide_eq_true q)
              · exact .inr ⟨decide_eq_false q, decide_eq_true (by omega)⟩
            clear hdd hd
            rcases hq with q1 | ⟨q1, q2⟩
            · by_cases hk0 : k = 0
              · have r1 : ((k : Int) == 0) = true := by rw [hk0]; rfl
                clear hk0 hk9
                go_wp2_with fail
                go_ret
                exact ⟨rfl, k1.trans k18⟩
              · obtain ⟨j, rfl⟩ : ∃ j, k = j + 1 := ⟨k - 1, by omega⟩
                have r1 : (((j + 1 : Nat) : Int) == 0) = false := by rw [beq_eq_false_iff_ne]; omega
                have r2 : IntKind.i64.wrap (((j + 1 : Nat) : Int) - 1) = (j : Int) := by rw [IntWalk.i64_left, show ((j + 1 : Nat) : Int) - 1 = (j : Int) by omega]; exact IntWalk.wrap64_in _ (by omega)
                have hnd := hp.out j (by omega)
                clear hk0
                go_wp2_with fail
                refine (hBo.out w8 k18 j (by have := hk.out; omega)).mono ?_
                rintro e w9 ⟨g9, rfl, hG9, k9⟩
                have k19 := k18.trans k9
                obtain ⟨⟨lo9, hi9⟩, hlh9⟩ : ∃ ab, (beL base ts (vX xs) j).getD u (0, 0) = ab := ⟨_, rfl⟩
                obtain ⟨e0, e1⟩ := VB_at hG9 (by rw [kL]; exact HU.out) hlh9
                unfold dcB at hnd
                rw [hlh9] at hnd
                simp only at hnd
                have t5 : decide (lo9 ≤ lim) = true := decide_eq_true (by omega)
                have t6 : decide (hi9 > lim) = true := decide_eq_true (by omega)
                clear hnd hlh9
                go_wp2_with fail
                go_ret
                exact ⟨rfl, k1.trans k19⟩
            · by_cases hk0 : k = 0
              · have r1 : ((k : Int) == 0) = true := by rw [hk0]; rfl
                clear hk0 hk9
                go_wp2_with fail
                go_ret
                exact ⟨rfl, k1.trans k18⟩
              · obtain ⟨j, rfl⟩ : ∃ j, k = j + 1 := ⟨k - 1, by omega⟩
                have r1 : (((j + 1 : Nat) : Int) == 0) = false := by rw [beq_eq_false_iff_ne]; omega
                have r2 : IntKind.i64.wrap (((j + 1 : Nat) : Int) - 1) = (j : Int) := by rw [IntWalk.i64_left, show ((j + 1 : Nat) : Int) - 1 = (j : Int) by omega]; exact IntWalk.wrap64_in _ (by omega)
                have hnd := hp.out j (by omega)
                clear hk0
                go_wp2_with fail
                refine (hBo.out w8 k18 j (by have := hk.out; omega)).mono ?_
                rintro e w9 ⟨g9, rfl, hG9, k9⟩
                have k19 := k18.trans k9
                obtain ⟨⟨lo9, hi9⟩, hlh9⟩ : ∃ ab, (beL base ts (vX xs) j).getD u (0, 0) = ab := ⟨_, rfl⟩
                obtain ⟨e0, e1⟩ := VB_at hG9 (by rw [kL]; exact HU.out) hlh9
                unfold dcB at hnd
                rw [hlh9] at hnd
                simp only at hnd
                have t5 : decide (lo9 ≤ lim) = true := decide_eq_true (by omega)
                have t6 : decide (hi9 > lim) = true := decide_eq_true (by omega)
                clear hnd hlh9
                go_wp2_with fail
                go_ret
                exact ⟨rfl, k1.trans k19⟩
          · have m4 : decide (sv > lim) = false := decide_eq_false hlt
            rw [m4] at hAb6
            go_wp2_with (go_at_call 10; refine hAb6.mono ?_; rintro e w7 ⟨k, rfl, ⟨hk, hd, hp⟩, k7⟩
                         have k17 := k1o.trans k7
                         clear z0 z1 z2 z3 z4
                         obtain ⟨z0, z1, z2, z3, z4⟩ := cells5 (k17.at t1)
                         have c0' := k7.cell c0
                         have n1 : decide ((k : Int) < 0) = false := decide_eq_false (by omega)
                         have n2 : decide ((k : Int) > (ts.length : Int)) = false := decide_eq_false (by omega)
                         have n2n : ¬ ts.length < k := by omega
                         replace hd : Hid _ := hd
                         replace hp : Hid _ := hp
                         have hk9 : k ≤ 65536 := by omega
                         replace hk : Hid _ := hk)
            refine (hBo.out w7 k17 k hk.out).mono ?_
            rintro e w8 ⟨g, rfl, hG, k8⟩
            have k18 := k17.trans k8
            clear z0 z1 z2 z3 z4 c0 c0' n1 n2 n2n
            obtain ⟨z0, z1, z2, z3, z4⟩ := cells5 (k18.at t1)
            obtain ⟨⟨lo, hi⟩, hlh⟩ : ∃ ab, (beL base ts (vX xs) k).getD u (0, 0) = ab := ⟨_, rfl⟩
            obtain ⟨d0, d1⟩ := VB_at hG (by rw [kL]; exact HU.out) hlh
            have hdd := hd.out
            unfold dcB at hdd
            rw [hlh] at hdd
            simp only at hdd
            clear hlh
            have hq : (decide (lo > lim) = true) ∨ (decide (lo > lim) = false ∧ decide (hi ≤ lim) = true) := by
              by_cases q : lo > lim
              · exact .inl (decide_eq_true q)
              · exact .inr ⟨decide_eq_false q, decide_eq_true (by omega)⟩
            clear hdd hd
            rcases hq with q1 | ⟨q1, q2⟩
            · by_cases hk0 : k = 0
              · have r1 : ((k : Int) == 0) = true := by rw [hk0]; rfl
                clear hk0 hk9
                go_wp2_with fail
                go_ret
                exact ⟨rfl, k1.trans k18⟩
              · obtain ⟨j, rfl⟩ : ∃ j, k = j + 1 := ⟨k - 1, by omega⟩
                have r1 : (((j + 1 : Nat) : Int) == 0) = false := by rw [beq_eq_false_iff_ne]; omega
                have r2 : IntKind.i64.wrap (((j + 1 : Nat) : Int) - 1) = (j : Int) := by rw [IntWalk.i64_left, show ((j + 1 : Nat) : Int) - 1 = (j : Int) by omega]; exact IntWalk.wrap64_in _ (by omega)
                have hnd := hp.out j (by omega)
                clear hk0
                go_wp2_with fail
                refine (hBo.out w8 k18 j (by have := hk.out; omega)).mono ?_
                rintro e w9 ⟨g9, rfl, hG9, k9⟩
                have k19 := k18.trans k9
                obtain ⟨⟨lo9, hi9⟩, hlh9⟩ : ∃ ab, (beL base ts (vX xs) j).getD u (0, 0) = ab := ⟨_, rfl⟩
                obtain ⟨e0, e1⟩ := VB_at hG9 (by rw [kL]; exact HU.out) hlh9
                unfold dcB at hnd
                rw [hlh9] at hnd
                simp only at hnd
                have t5 : decide (lo9 ≤ lim) = true := decide_eq_true (by omega)
                have t6 : decide (hi9 > lim) = true := decide_eq_true (by omega)
                clear hnd hlh9
                go_wp2_with fail
                go_ret
                exact ⟨rfl, k1.trans k19⟩
            · by_cases hk0 : k = 0
              · have r1 : ((k : Int) == 0) = true := by rw [hk0]; rfl
                clear hk0 hk9
                go_wp2_with fail
                go_ret
                exact ⟨rfl, k1.trans k18⟩
              · obtain ⟨j, rfl⟩ : ∃ j, k = j + 1 := ⟨k - 1, by omega⟩
                have r1 : (((j + 1 : Nat) : Int) == 0) = false := by rw [beq_eq_false_iff_ne]; omega
                have r2 : IntKind.i64.wrap (((j + 1 : Nat) : Int) - 1) = (j : Int) := by rw [IntWalk.i64_left, show ((j + 1 : Nat) : Int) - 1 = (j : Int) by omega]; exact IntWalk.wrap64_in _ (by omega)
                have hnd := hp.out j (by omega)
                clear hk0
                go_wp2_with fail
                refine (hBo.out w8 k18 j (by have := hk.out; omega)).mono ?_
                rintro e w9 ⟨g9, rfl, hG9, k9⟩
                have k19 := k18.trans k9
                obtain ⟨⟨lo9, hi9⟩, hlh9⟩ : ∃ ab, (beL base ts (vX xs) j).getD u (0, 0) = ab := ⟨_, rfl⟩
                obtain ⟨e0, e1⟩ := VB_at hG9 (by rw [kL]; exact HU.out) hlh9
                unfold dcB at hnd
                rw [hlh9] at hnd
                simp only at hnd
                have t5 : decide (lo9 ≤ lim) = true := decide_eq_true (by omega)
                have t6 : decide (hi9 > lim) = true := decide_eq_true (by omega)
                clear hnd hlh9
                go_wp2_with fail
                go_ret
                exact ⟨rfl, k1.trans k19⟩
end Go.Proofs.YtodegcobkngmlaaDoor
