import Derived.Test.YtaogjiffnebnkaaSH
import Derived.Deep.QuietTactic
import Derived.BigQuiet
set_option linter.unusedVariables false
set_option linter.unusedSimpArgs false
namespace Go.Proofs.Ytaogjiffnebnkaa
open Go.RowKit Go.Shelf Go.Maps
attribute [local go_sem] run_store_float
theorem wrap_n {k n : Nat} (h : n ≤ 268435456) (h1 : k < n) : wrap64 (k : Int) = (k : Int) := by unfold wrap64; omega
set_option maxRecDepth 100000 in
set_option maxHeartbeats 4000000 in
theorem law_stops (a : Option Addr) (cap : Nat) (ts : List (Int × List Nd)) (F : Int) (x : Nat) (w : World) (ht : RdT w a ts) (htl : ts.length ≤ 4398046511104) (hx : x < 18446744073709551616) :
    Calls Try.prog 6 #[.slice a ts.length cap, .int .i64 F, .float .f64 x] w fun e w' => e = .returned (.bool true) ∧ Keep w w' := by
  obtain ⟨n, hn⟩ : ∃ n, ts.length = n := ⟨_, rfl⟩
  have hB := begins_any w
  have hO := fun (wx : World) (kx : Keep w wx) => Of_rd a cap ts n hn F wx (RdT.keep ht kx)
  have HN : Hid (ts.length = n ∧ n ≤ 4398046511104) := ⟨hn, by omega⟩
  rw [hn]
  obtain ⟨E, hE⟩ : ∃ E, ofE ts F = E := ⟨_, rfl⟩
  rw [hE] at hO
  replace hO : Hid _ := hO
  have HE : Hid (ofE ts F = E) := hE
  have HX : Hid (x < 18446744073709551616) := hx
  replace ht : Hid (RdT w a ts) := ht
  clear hn htl hE hx
  go_enter Try.func6, Try.ntmps6
  go_upto_region 4 with (first
    | (go_at_call 25; refine hB.mono ?_; rintro e v1 ⟨rfl, k1⟩; clear hB)
    | (go_at_call 10; refine (hO.out v1 k1).mono ?_; rintro e v2 ⟨aT, cT, T, rfl, k2, rT, bT, hT0, hT1⟩; clear hO; have kv2 := Keep.trans k1 k2))
  have kW : Hid (Keep w v2) := kv2
  clear k1 k2 kv2
  by_cases hE0 : E = 0
  · have hI := hT1 hE0
    have hsm := ofE_small (HE.out.trans hE0)
    have htr : Hid (∀ j, j < ts.length → trE (ts.getD j (0, [])).2 = 0) := fun j hj => tkE_tr (hsm.2 j hj)
    have hgl := gall_len hsm.2 ts.length (Nat.le_refl _)
    rw [List.take_length] at hgl
    have hok : Hid (∀ s ∈ gall ts, okT s.2) := by
      intro s hs
      exact (gall_ok ht.out hsm.2 ts.length (Nat.le_refl _) s (by rw [List.take_length]; exact hs)).1
    have hbnd : Hid ((gall ts).length ≤ 268435456) := by
      show _ ≤ _
      have h1 := hsm.1
      omega
    have hthr : Hid (∀ f, (thr ts f).length ≤ 17592186044414) := by
      intro f
      have h1 := thr_len ts f 8191 (fun t h => by
        obtain ⟨j, hj, rfl⟩ := List.getElem_of_mem h
        have e : ts.getD j (0, []) = ts[j] := by simp [List.getD, hj]
        have h2 := htr.out j hj
        rw [e] at h2
        exact tr_len h2)
      have h2 := hsm.1
      omega
    subst hE0
    clear hT0 hT1 hsm hgl
    replace hI : Hid _ := hI
    replace bT : Hid _ := bT
    go_wp2_with fail
    go_loopw [9] (fun iv wr => ∃ (i : Nat), iv = .int .i64 (i : Int) ∧ i ≤ T.length ∧ Keep v2 wr) (fun iv _ => T.length - (intOf iv).toNat)
    case atStart => exact ⟨0, rfl, Nat.zero_le _, Keep.refl _⟩
    case round =>
      obtain ⟨i, rfl, hi, kw⟩ := hrel
      by_cases hil : i < T.length
      · have hic : (i : Int) < (T.length : Int) := by omega
        obtain ⟨b1, o1, na1, nc1, ca1, cc1, la1, lc1, rfl, c0, c1, c2, c3, q1, q2, q3, -, -, -, -, -, -⟩ := rT i hil
        have hmem : T.getD i lst0 ∈ T := by
          have : T.getD i lst0 = T[i] := by simp [List.getD, hil]
          rw [this]; exact List.getElem_mem _
        obtain ⟨hokn, hlen⟩ := hI.out.ns_ok hok.out hmem
        have hsr := (hI.out.ns _ hmem).1
        have hkeys := fun κ => ns_keys htr.out hI.out hmem κ
        generalize T.getD i lst0 = t at *
        obtain ⟨f, tn, tc, tl⟩ := t
        simp only at c0 c1 c2 c3 q1 hokn hlen hsr hkeys
        obtain ⟨m, hm⟩ : ∃ m, tn.length = m := ⟨_, rfl⟩
        have hm28 : m ≤ 268435456 := by have := hbnd.out; omega
        have hF := fun (wx : World) (kx : Keep v2 wx) => First_big f na1 tn nc1 ca1 tc.length cc1 la1 tl.length lc1 x wx (by omega) (RdC.keep q1 kx)
        have hG := fun (wx : World) (kx : Keep v2 wx) => Groups_big f na1 tn nc1 ca1 tc.length cc1 la1 tl.length lc1 wx (by omega) (RdC.keep q1 kx)
        have hD := fun (wx : World) (kx : Keep v2 wx) => Thr_any a cap ts n HN.out.1 f HN.out.2 wx (RdT.keep ht.out (Keep.trans kW.out kx)) (hthr.out f)
        unfold lst at hF hG
        have hfa : Hid (∀ j, j < m → gtB x (tn.getD j cd0).th = decide (j < fst tn x)) := fun j hj => fst_at hsr hokn HX.out (by omega)
        have hgr : Hid (Grp tn tn.length (grp tn tn.length)) := grp_is hsr hokn _ (Nat.le_refl _)
        have hfz : Hid (fst tn x ≤ m) := by show _ ≤ _; have := fst_le tn x; omega
        rw [hm] at c1 hF hG hgr
        obtain ⟨n0, hn0⟩ : ∃ n0, fst tn x = n0 := ⟨_, rfl⟩
        rw [hn0] at hF hfa hfz
        obtain ⟨G, hGe⟩ : ∃ G, grp tn m = G := ⟨_, rfl⟩
        have HGl : Hid (G.length ≤ m) := by show _ ≤ _; rw [← hGe]; exact grp_len tn m
        rw [hGe] at hG hgr
        have HM : Hid (tn.length = m) := hm
        replace hkeys : Hid _ := hkeys
        have hm28' : Hid (m ≤ 268435456) := hm28
        have z0 := kw.cell c0
        have z1 := kw.cell c1
        have z2 := kw.cell c2
        have z3 := kw.cell c3
        replace kw : Hid (Keep v2 wr) := kw
        replace hil : Hid (i < T.length) := hil
        replace q1 : Hid (RdC v2 na1 tn) := q1
        replace hF : Hid _ := hF
        replace hG : Hid _ := hG
        replace hD : Hid _ := hD
        obtain ⟨tcl, htcl⟩ : ∃ q, tc.length = q := ⟨_, rfl⟩
        obtain ⟨tll, htll⟩ : ∃ q, tl.length = q := ⟨_, rfl⟩
        rw [htcl] at c2 z2 hF hG
        rw [htll] at c3 z3 hF hG
        clear hokn hlen hsr hmem hm hn0 hGe hm28 hi q2 q3 htcl htll
        go_upto_region 10 with (first
          | (go_at_call 15; refine (hF.out wr kw.out).mono ?_; rintro e w5 ⟨rfl, k5⟩; clear hF))
        have y0 := k5.cell z0
        have y1 := k5.cell z1
        have y2 := k5.cell z2
        have y3 := k5.cell z3
        have kw5 : Hid (Keep v2 w5) := Keep.trans kw.out k5
        clear z0 z1 z2 z3 kw k5
        go_wp2_with fail
        go_loopw [11] (fun jv wx => ∃ (j : Nat), jv = .int .i64 (j : Int) ∧ j ≤ m ∧ Keep w5 wx) (fun jv _ => m - (intOf jv).toNat)
        case atStart => exact ⟨0, rfl, Nat.zero_le _, Keep.refl _⟩
        case round =>
          obtain ⟨j, rfl, hj, k6⟩ := hrel
          have p0 := k6.cell y0
          have p1 := k6.cell y1
          have p2 := k6.cell y2
          have p3 := k6.cell y3
          by_cases hjm : j < m
          · have hjc : (j : Int) < (m : Int) := by omega
            obtain ⟨b2, o2, ca2, cp2, rfl, hc⟩ := q1.out j (by rw [HM.out]; exact hjm)
            have d0 := k6.cell (kw5.out.cell hc.c0)
            have he := hfa.out j hjm
            clear hc
            generalize (tn.getD j cd0).th = y at *
            replace k6 : Hid (Keep w5 wr) := k6
            have hjm2 : Hid (j < m) := hjm
            by_cases hjn : j < n0
            · rw [decide_eq_true hjn] at he
              have he' : (FloatKind.f64.format.order x y == some .gt) = true := he
              have hjn' : (j : Int) < (n0 : Int) := by omega
              clear he
              go_wp2_with fail
              have hm8 := hm28'.out
              have hj8 := hjm2.out
              rw [wrap_up4 (n := m) (by omega) hj8]
              exact ⟨⟨j + 1, rfl, hj8, k6.out⟩, by show m - (((j + 1 : Nat) : Int)).toNat < m - ((j : Int)).toNat; omega⟩
            · rw [decide_eq_false hjn] at he
              have he' : (FloatKind.f64.format.order x y == some .gt) = false := he
              have hjn' : ¬ (j : Int) < (n0 : Int) := by omega
              clear he
              go_wp2_with fail
              have hm8 := hm28'.out
              have hj8 := hjm2.out
              rw [wrap_up4 (n := m) (by omega) hj8]
              exact ⟨⟨j + 1, rfl, hj8, k6.out⟩, by show m - (((j + 1 : Nat) : Int)).toNat < m - ((j : Int)).toNat; omega⟩
          · have hjc : ¬ (j : Int) < (m : Int) := by omega
            replace k6 : Hid (Keep w5 wr) := k6
            go_upto_region 16 with (first
              | (go_at_call 22; refine (hG.out wr (Keep.trans kw5.out k6.out)).mono ?_; rintro e w7 ⟨vG, rfl, oG, k7⟩; clear hG))
            have p0 := k7.cell p0
            have p1 := k7.cell p1
            obtain ⟨aG, cG, rfl, hcG, hrG⟩ := oG.shape
            have kw7 : Hid (Keep v2 w7) := Keep.trans kw5.out (Keep.trans k6.out k7)
            obtain ⟨nG, hnG⟩ : ∃ nG, G.length = nG := ⟨_, rfl⟩
            rw [hnG] at hrG
            try rw [hnG]
            have HnG : Hid (G.length = nG) := hnG
            replace hrG : Hid _ := hrG
            clear oG k7 k6 p2 p3 hcG hnG
            go_upto_region 17 with (first
              | (go_at_call 27; refine (hD.out w7 kw7.out).mono ?_; rintro e w8 ⟨g8, c8, D, rfl, hDst, hrow, k8⟩; clear hD))
            have hgd := grp_dst (h := (by rw [← HM.out] at hgr; exact hgr.out)) hDst hkeys.out (thr_f64 ht.out f)
            obtain ⟨hgl, hge⟩ := hgd
            rw [HnG.out] at hgl hge
            have p0 := k8.cell p0
            have p1 := k8.cell p1
            have hrD : Hid (∀ j, j < nG → w8.cell? ⟨g8, j, none⟩ = some (.float .f64 (D.getD j 0))) := by
              intro j hj
              exact rowF_at hrow rfl j (by omega)
            rw [← hgl]
            have kw8 : Hid (Keep v2 w8) := Keep.trans kw7.out k8
            have hrG8 : Hid (∀ j, j < nG → ∃ b, aG = some ⟨b, 0, none⟩ ∧ w8.cell? ⟨b, j * 3, none⟩ = some (.float .f64 (G.getD j gt0).1) ∧ w8.cell? ⟨b, j * 3 + 1, none⟩ = some (.int .i64 ((G.getD j gt0).2.1 : Nat)) ∧ w8.cell? ⟨b, j * 3 + 2, none⟩ = some (.int .i64 ((G.getD j gt0).2.2 : Nat))) := by
              intro j hj
              obtain ⟨b, e, hu⟩ := hrG.out j hj
              exact ⟨b, e, k8.cell (hu 0 _ (by omega) rfl), k8.cell (hu 1 _ (by omega) rfl), k8.cell (hu 2 _ (by omega) rfl)⟩
            replace hge : Hid _ := hge
            have hgr2 : Hid (∀ j, j < nG → (G.getD j gt0).2.1 = atG G j ∧ atG G j < (G.getD j gt0).2.2 ∧ (0 < j → leqF (G.getD j gt0).1 (G.getD (j - 1) gt0).1 = false)) := by
              intro j hj
              have h9 : Grp tn tn.length G := by rw [HM.out]; exact hgr.out
              exact h9.at (by rw [HnG.out]; exact hj)
            have hfin : Hid (atG G nG = m) := by
              have h9 : Grp tn tn.length G := by rw [HM.out]; exact hgr.out
              have := h9.fin
              rw [HnG.out, HM.out] at this
              exact this
            clear hrow k8 hDst hkeys hrG hgl
            have hnG28 : Hid (nG ≤ 268435456) := by
              show _ ≤ _
              have h1 := hm28'.out
              have h3 := HGl.out
              have h4 := HnG.out
              omega
            go_wp2_with fail
            have hat0 : atG G 0 = 0 := rfl
            go_loopw [14, 15] (fun av jv wx => ∃ (j : Nat), av = .int .i64 ((atG G j : Nat) : Int) ∧ jv = .int .i64 (j : Int) ∧ j ≤ nG ∧ Keep w8 wx) (fun _ jv _ => nG - (intOf jv).toNat)
            case atStart => exact ⟨0, rfl, rfl, Nat.zero_le _, Keep.refl _⟩
            case round =>
              obtain ⟨j2, rfl, rfl, hj2, k9⟩ := hrel
              by_cases hjg : j2 < nG
              · have hjc2 : (j2 : Int) < (nG : Int) := by omega
                obtain ⟨b9, rfl, g0, g1, g2⟩ := hrG8.out j2 hjg
                obtain ⟨e1, e2, e3⟩ := hgr2.out j2 hjg
                have e4 := hge.out j2 hjg
                have dj := k9.cell (hrD.out j2 hjg)
                replace g0 := k9.cell g0
                replace g1 := k9.cell g1
                replace g2 := k9.cell g2
                have hnx := atG_next G j2
                rw [e1] at g1
                obtain ⟨A, hA⟩ : ∃ A, atG G j2 = A := ⟨_, rfl⟩
                rw [hA] at g1 e2 ⊢
                have b1' : (((A : Nat) : Int) != ((A : Nat) : Int)) = false := by simp
                have b2' : decide (((G.getD j2 gt0).2.2 : Int) ≤ (A : Int)) = false := decide_eq_false (by omega)
                have b3' : (FloatKind.f64.format.order (G.getD j2 gt0).1 (D.getD j2 0) != some .eq) = false := by
                  have h9 : (FloatKind.f64.format.order (G.getD j2 gt0).1 (D.getD j2 0) == some .eq) = true := e4
                  show (!(_ == _)) = false
                  rw [h9]; rfl
                have hjg2 : Hid (j2 < nG) := hjg
                replace k9 : Hid (Keep w8 wr) := k9
                by_cases hj0 : 0 < j2
                · have b4' : decide ((0 : Int) < (j2 : Int)) = true := decide_eq_true (by omega)
                  have b4n : decide (0 < j2) = true := decide_eq_true hj0
                  obtain ⟨b9', e9, f0, -, -⟩ := hrG8.out (j2 - 1) (by omega)
                  simp only [Option.some.injEq, Addr.mk.injEq, and_true] at e9
                  subst e9
                  replace f0 := k9.out.cell f0
                  have b5' : (FloatKind.f64.format.order (G.getD j2 gt0).1 (G.getD (j2 - 1) gt0).1 == some .lt || FloatKind.f64.format.order (G.getD j2 gt0).1 (G.getD (j2 - 1) gt0).1 == some .eq) = false := e3 hj0
                  obtain ⟨j3, hj3⟩ : ∃ j3, j2 - 1 = j3 := ⟨_, rfl⟩
                  have hs3 : (j2 : Int) - 1 = (j3 : Int) := by omega
                  have hj3n : (j3 : Int) < (nG : Int) := by omega
                  have hj3m : j3 < nG := by omega
                  have hs3a : wrap64 (j3 : Int) = (j3 : Int) := wrap_n hnG28.out hj3m
                  have hs3b : IntKind.i64.wrap (j3 : Int) = (j3 : Int) := by rw [IntWalk.i64_left]; exact hs3a
                  rw [hj3] at f0 b5'
                  generalize G.getD j2 gt0 = gg at *
                  generalize G.getD j3 gt0 = gh at *
                  generalize D.getD j2 0 = dd at *
                  obtain ⟨th1, fr1, to1⟩ := gg
                  obtain ⟨th2, fr2, to2⟩ := gh
                  simp only at g0 g1 g2 b2' b3' b5' f0 hnx e2
                  replace hj3 : Hid _ := hj3
                  replace hA : Hid _ := hA
                  clear e1 e3 e4
                  go_wp2_with fail
                  go_quiet (fail)
                  have kd : Keep wr (wr.drewN nq) := (Keep.refl wr).drewN nq
                  replace g2 := kd.cell g2
                  generalize wr.drewN nq = W9 at *
                  go_wp2_with fail
                  have hn8 := hnG28.out
                  have hj8 := hjg2.out
                  rw [wrap_up4 (n := nG) (Nat.le_trans hn8 (by decide)) hj8]
                  exact ⟨⟨j2 + 1, by rw [hnx], rfl, hj8, Keep.trans k9.out kd⟩, by show nG - (((j2 + 1 : Nat) : Int)).toNat < nG - ((j2 : Int)).toNat; omega⟩
                · have b4' : decide ((0 : Int) < (j2 : Int)) = false := decide_eq_false (by omega)
                  generalize G.getD j2 gt0 = gg at *
                  generalize D.getD j2 0 = dd at *
                  obtain ⟨th1, fr1, to1⟩ := gg
                  simp only at g0 g1 g2 b2' b3' hnx e2
                  replace hA : Hid _ := hA
                  clear e1 e3 e4
                  go_wp2_with fail
                  refine region_keepQ (Keep.refl wr) (by kernel_rfl) (by kernel_rfl) ?_
                  repeat
                    with_reducible refine wpQuiet_step ?_
                    intro K hK
                    go_simp
                    first
                      | (with_reducible refine hK _ ?_; clear hK K)
                      | (with_reducible refine (if_neg ?_).mpr (hK _ ?_)
                         · decide
                         clear hK K)
                      | (apply Exists.intro
                         with_reducible refine ⟨fun wq hq => ?_, hK _ ?_⟩
                         · first
                             | with_reducible rfl
                             | (have qc0 := hq.cell g0; have qc1 := hq.cell g1; have qc2 := hq.cell g2; have qc3 := hq.cell dj; go_simp; with_reducible rfl)
                         clear hK K)
                  with_reducible refine wpQuiet_nil ?_
                  intro W9 kd
                  go_simp
                  replace g2 := kd.cell g2
                  go_wp2_with fail
                  have hn8 := hnG28.out
                  have hj8 := hjg2.out
                  try rw [wrap_up4 (n := nG) (Nat.le_trans hn8 (by decide)) hj8]
                  exact ⟨⟨j2 + 1, by rw [hnx], by first | rfl | go_num, hj8, Keep.trans k9.out kd⟩, by show nG - ((j2 : Int) + 1).toNat < nG - ((j2 : Int)).toNat; omega⟩
              · have hjc2 : ¬ (j2 : Int) < (nG : Int) := by omega
                have hjE : j2 = nG := by omega
                rw [hjE, hfin.out]
                replace p1 := k9.cell p1
                replace k9 : Hid (Keep w8 wr) := k9
                clear hjg hjc2 hjE hj2
                go_wp2_with fail
                have hb := bT.out
                have hl2 := hil.out
                rw [wrap_up4 hb hl2]
                exact ⟨⟨i + 1, rfl, hl2, Keep.trans kw8.out k9.out⟩, by show T.length - (((i + 1 : Nat) : Int)).toNat < T.length - ((i : Int)).toNat; omega⟩
      · have hic : ¬ (i : Int) < (T.length : Int) := by omega
        replace kw : Hid (Keep v2 wr) := kw
        go_wp2_with fail
        go_ret
        exact ⟨rfl, Keep.trans kW.out kw.out⟩
  · have x1 : (E != 0) = true := bne_iff_ne.2 hE0
    clear hT0 hT1 HE rT
    replace hE0 : Hid _ := hE0
    go_wp2_with fail
    go_ret
    exact ⟨rfl, kW.out⟩
end Go.Proofs.Ytaogjiffnebnkaa
