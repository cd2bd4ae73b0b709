import Derived.Test.YtonfjmibnnioiaaDoorR0
import Derived.Test.YtonfjmibnnioiaaDoorR1
import Derived.Test.YtonfjmibnnioiaaDoorZ3
import Derived.Test.YtonfjmibnnioiaaDoorZ7
set_option linter.unusedVariables false
set_option linter.unusedSimpArgs false
namespace Go.Proofs.YtonfjmibnnioiaaDoor
open Go.RowKit Go.Shelf
theorem OR.keep {B T z : Nat} {w w' : World} {v : Value} {n : Nat} (h : OR B T z w v n) (k : Keep w w') : OR B T z w' v n := by
  obtain ⟨l, h⟩ := h
  exact ⟨l, own_keep h k⟩
set_option maxRecDepth 100000 in
set_option maxHeartbeats 8000000 in
theorem law_own (l : List UInt8) (y : UInt8) (w : World) (hT : Kt w) (hs : l.length ≤ 1048576) : Calls Tryd.prog 9 #[.string ⟨l.toArray⟩, .int .u8 (y.toNat : Nat)] w fun e w' => e = .returned (.bool true) ∧ Keep w w' := by
  have hL := lives_any w hT
  have hc12 := fun wx => Rows_any l wx (by omega)
  have hc13 := fun wx => rRows_any l wx (by omega)
  have hc14 := fun wx (h : Kt wx) => Words_any l wx h (by omega)
  have hc15 := fun wx => rWords_any l wx (by omega)
  have hc17 := fun wx => Fields_any l y wx (by omega)
  have hc18 := fun wx => rFields_any l y wx (by omega)
  have len1 : (rwA 0 0 l).length ≤ 1048576 := by
    have := rwA_len l.length 0 0 l (Nat.le_refl _)
    omega
  have len2 : (ws 0 l []).1.length ≤ 1048576 := by
    have := ws_len l
    omega
  have len3 : (fdR l y).1.length ≤ 1048577 := by
    have := fdR_len l y
    omega
  have eq1 := fun a a' c c' wx h1 h2 => rows_eq a a' c c' (rwA 0 0 l) wx h1 h2 (by omega)
  have eq2 := fun a a' c c' wx h1 h2 => Same_eq a a' c c' (ws 0 l []).1 wx h1 h2 (by omega)
  have eq3 := fun a a' c c' wx h1 h2 => Texts_eq a a' c c' (fdR l y).1 wx h1 h2 (by omega)
  generalize (ws 0 l []).2.1 = e2 at *
  generalize (ws 0 l []).2.2 = p2 at *
  generalize (fdR l y).2.1 = e3 at *
  generalize (fdR l y).2.2 = p3 at *
  generalize rwA 0 0 l = L1 at *
  generalize (ws 0 l []).1 = L2 at *
  generalize (fdR l y).1 = L3 at *
  generalize y.toNat = n at *
  replace hT : Hid _ := hT
  replace eq1 : Hid _ := eq1
  replace eq2 : Hid _ := eq2
  replace eq3 : Hid _ := eq3
  replace hc14 : Hid _ := hc14
  replace hs : Hid _ := hs
  go_enter Tryd.func9, Tryd.ntmps9
  have ta1 : True := trivial
  go_wp2_with (first
    | (go_at_call 10; refine hL.mono ?_; rintro e w1 ⟨rfl, k1⟩; have kw1 : Hid (Keep w w1) := k1; clear hL k1)
    | (go_at_call 12; have _t := tb1; refine (hc12 _).mono ?_; rintro e wB ⟨vb1, rfl, ob1, kb1⟩
       obtain ⟨ab1, cb1, rfl, hcb1⟩ := own_len ob1
       replace ob1 : Hid _ := ob1
       replace kb1 : Hid _ := kb1
       clear tb1)
    | (go_at_call 12; have _t := ta1; refine (hc12 _).mono ?_; rintro e wA ⟨va1, rfl, oa1, ka1⟩
       obtain ⟨aa1, ca1, rfl, hca1⟩ := own_len oa1
       replace oa1 : Hid _ := oa1
       replace ka1 : Hid _ := ka1
       clear ta1
       have tb1 : True := trivial)
    | (go_at_call 13; refine (hc13 _).mono ?_; rintro e wC ⟨vc1, rfl, oc1, kc1⟩
       obtain ⟨ac1, cc1, rfl, hcc1⟩ := own_len oc1
       replace oc1 : Hid _ := oc1
       replace kc1 : Hid _ := kc1
       have tc1 : True := trivial))
  obtain ⟨T1, hT1⟩ : ∃ T : Nat → Prop, T = (fun g => (w1.heap.size ≤ g ∧ g < wA.heap.size) ∨ wC.heap.size ≤ g) := ⟨_, rfl⟩
  have hbT0 : Hid (∀ g, (Value.slice aa1 L1.length ca1).ownBlock = some g → T1 g) := fun g hg => by
    obtain ⟨h1, cur, hh⟩ := own_block oa1.out hg
    rw [hT1]; exact .inl ⟨h1, lt_of_at hh⟩
  have hOr0 : Hid (OR w1.heap.size 46 3 wC (.slice aa1 L1.length ca1) L1.length) := OR.keep (OR.of oa1.out) (Keep.trans kb1.out kc1.out)
  have hle1 : Hid (w1.heap.size ≤ wA.heap.size ∧ wA.heap.size ≤ wB.heap.size ∧ wB.heap.size ≤ wC.heap.size) := ⟨Keep.le ka1.out, Keep.le kb1.out, Keep.le kc1.out⟩
  replace hT1 : Hid _ := hT1
  go_loopw [42] (fun iv wr => ∃ k : Nat, iv = .int .i64 k ∧ k ≤ L1.length ∧ Hid (OR w1.heap.size 46 3 wr (.slice aa1 L1.length ca1) L1.length) ∧ Hid (Stp T1 wC wr)) (fun iv _ => L1.length - (intOf iv).toNat)
  case atStart => exact ⟨0, rfl, by omega, hOr0, Stp.refl _ _⟩
  case round =>
    obtain ⟨k, rfl, hk, hOr, hSt⟩ := hrel
    by_cases hlt : k < L1.length
    · have hltc : decide ((k : Int) < (L1.length : Int)) = true := decide_eq_true (by omega)
      obtain ⟨g, haa, hg1, hg2, hfz, hce⟩ := OR.at hOr.out (by omega)
      have hbl : (Value.slice aa1 L1.length ca1).ownBlock = some g := by rw [haa]; rfl
      have hbT := hbT0.out
      obtain ⟨x0, hx0⟩ := hce (k * 3) (by omega)
      obtain ⟨x1, hx1⟩ := hce (k * 3 + 1) (by omega)
      obtain ⟨x2, hx2⟩ := hce (k * 3 + 2) (by omega)
      have f0 := hfz (k * 3)
      have f1 := hfz (k * 3 + 1)
      have f2 := hfz (k * 3 + 2)
      have hOr2 : Hid (OR w1.heap.size 46 3 (((wr.setCell ⟨g, k * 3, none⟩ (.int .i64 0)).setCell ⟨g, k * 3 + 1, none⟩ (.int .i64 0)).setCell ⟨g, k * 3 + 2, none⟩ (.string ⟨#[]⟩)) (.slice aa1 L1.length ca1) L1.length) := by
        have hOr := hOr.out
        exact hOr.set3 hbl (k * 3) _ _ _
      have hSt2 : Hid (Stp T1 wC (((wr.setCell ⟨g, k * 3, none⟩ (.int .i64 0)).setCell ⟨g, k * 3 + 1, none⟩ (.int .i64 0)).setCell ⟨g, k * 3 + 2, none⟩ (.string ⟨#[]⟩))) := Stp.trans hSt.out (Stp.set3 _ _ _ (hbT g hbl))
      have HK : Hid (k < L1.length) := hlt
      clear hce hfz hbl hbT
      subst haa
      go_wp2_with fail
      go_roundw
      case rel => exact ⟨k + 1, by go_num, by have := HK.out; omega, hOr2, hSt2⟩
      case measure => have := HK.out; simp [intOf]; omega
    · have hltc : ¬ (k : Int) < (L1.length : Int) := by omega
      obtain rfl : k = L1.length := by omega
      go_wp2_with fail
      obtain ⟨wS1, hwS⟩ : ∃ wS, wS = wr := ⟨_, rfl⟩
      subst hwS
      clear hOr0
      go_loopw [5, 9] (fun vv iv wr => ∃ i : Nat, iv = .int .i64 i ∧ i ≤ 9 ∧ OR w1.heap.size 46 3 wr vv (L1.length + i) ∧ Hid (∀ g, vv.ownBlock = some g → T1 g) ∧ Hid (Stp T1 wC wr)) (fun _ iv _ => 9 - (intOf iv).toNat)
      case atStart => exact ⟨0, rfl, by omega, hOr.out, hbT0, hSt⟩
      case round =>
        obtain ⟨i, rfl, hi, hOr, hbT, hSt⟩ := hrel
        replace hOr : Hid _ := hOr
        by_cases hlt : i < 9
        · have hltc : decide ((i : Int) < 9) = true := decide_eq_true (by omega)
          obtain ⟨w6, hw6, k6, t6, s6⟩ := boxed wr #[.int .i64 (-1), .int .i64 0, .string ⟨#[]⟩] 46
          have HK : Hid (i < 9) := hlt
          clear hltc
          have hltc : decide ((i : Int) < 9) = true := decide_eq_true (by omega)
          go_wp2_with (first
            | rw [hw6]
            | (at_builtin; refine wpList_appO Tryd.underlying24 i46 (by kernel_rfl) (by decide) (by decide) w1.heap.size _ rfl _ _ rfl (L1.length + i) [.int .i64 (-1), .int .i64 0, .string ⟨#[]⟩] _ rfl (OR.keep hOr.out k6) (by have h1 := Stp.size hSt.out; have h2 := hle1.out; have h3 := Keep.le k6; omega) ⟨wr.heap.size, 0, none⟩ 1 rfl rfl (at3 t6) (by simp [Value.oneCell']) (by omega) ?_; intro v7 w7 hO7 hg7 hp7
               have hSt7 : Hid (Stp T1 wC w7) := (Stp.trans hSt.out (Stp.of_keep k6)).trans (Stp.grown hg7 hbT.out)
               have hbT7 : Hid (∀ g, v7.ownBlock = some g → T1 g) := fun g hg => by
                 rcases hp7 with h | h
                 · exact hbT.out g (h.symm.trans hg)
                 · rw [h] at hg
                   simp only [Option.some.injEq] at hg
                   have h1 := Stp.size hSt.out
                   have h3 := Keep.le k6
                   rw [hT1.out]; exact .inr (by omega)
               replace hO7 : Hid _ := hO7
               clear hg7 hp7))
          go_roundw
          case rel => exact ⟨i + 1, by go_num, by have := HK.out; omega, hO7.out, hbT7, hSt7⟩
          case measure => have := HK.out; simp [intOf]; omega
        · have hltc : ¬ (i : Int) < 9 := by omega
          obtain rfl : i = 9 := by omega
          obtain ⟨aa, ca', rfl, hcl⟩ := OR.shape hOr.out
          obtain ⟨wD, hwd⟩ : ∃ wD, wD = wr := ⟨_, rfl⟩
          subst hwd
          have kwD : Hid (Keep w wD) := Stp.keep (Keep.trans (Keep.trans (Keep.trans kw1.out ka1.out) kb1.out) kc1.out) hSt.out (fun g hg => by rw [hT1.out] at hg; have h1 := hle1.out; have h2 := Keep.le kw1.out; omega)
          have od1 : Hid (OwnR wA.heap.size (.slice ab1 L1.length cb1) L1 wD) := own_stp (own_keep ob1.out kc1.out) hSt.out (fun g h1 h2 ht => by rw [hT1.out] at ht; have h3 := hle1.out; omega)
          have of1 : Hid (OwnR wB.heap.size (.slice ac1 L1.length cc1) L1 wD) := own_stp oc1.out hSt.out (fun g h1 h2 ht => by rw [hT1.out] at ht; have h3 := hle1.out; omega)
          have hlc1 : Hid (wC.heap.size ≤ wD.heap.size) := Stp.size hSt.out
          clear hOr hSt hbT hbT0 hltc oa1 ob1 oc1
          have ta2 : True := trivial
          go_wp2_with (first
            | (go_at_call 14; have _t := tb2; refine (hc14.out _ (Kt.keep hT.out (kwD.out.trans ka2.out))).mono ?_; rintro e wF ⟨vb2, rfl, ob2, kb2⟩
               obtain ⟨ab2, cb2, rfl, hcb2⟩ := own_len ob2
               replace ob2 : Hid _ := ob2
               replace kb2 : Hid _ := kb2
               clear tb2)
            | (go_at_call 14; have _t := ta2; refine (hc14.out _ (Kt.keep hT.out kwD.out)).mono ?_; rintro e wE ⟨va2, rfl, oa2, ka2⟩
               obtain ⟨aa2, ca2, rfl, hca2⟩ := own_len oa2
               replace oa2 : Hid _ := oa2
               replace ka2 : Hid _ := ka2
               clear ta2
               have tb2 : True := trivial)
            | (go_at_call 15; refine (hc15 _).mono ?_; rintro e wG ⟨vc2, rfl, oc2, kc2⟩
               obtain ⟨ac2, cc2, rfl, hcc2⟩ := own_len oc2
               replace oc2 : Hid _ := oc2
               replace kc2 : Hid _ := kc2
               have tc2 : True := trivial))
          obtain ⟨T2, hT2⟩ : ∃ T : Nat → Prop, T = (fun g => (wD.heap.size ≤ g ∧ g < wE.heap.size) ∨ wG.heap.size ≤ g) := ⟨_, rfl⟩
          have hbT0 : Hid (∀ g, (Value.slice aa2 L2.length ca2).ownBlock = some g → T2 g) := fun g hg => by
            obtain ⟨h1, cur, hh⟩ := own_block oa2.out hg
            rw [hT2]; exact .inl ⟨h1, lt_of_at hh⟩
          have hOr0 : Hid (OR wD.heap.size 44 3 wG (.slice aa2 L2.length ca2) L2.length) := OR.keep (OR.of oa2.out) (Keep.trans kb2.out kc2.out)
          have hle2 : Hid (wD.heap.size ≤ wE.heap.size ∧ wE.heap.size ≤ wF.heap.size ∧ wF.heap.size ≤ wG.heap.size) := ⟨Keep.le ka2.out, Keep.le kb2.out, Keep.le kc2.out⟩
          replace hT2 : Hid _ := hT2
          go_loopw [78] (fun iv wr => ∃ k : Nat, iv = .int .i64 k ∧ k ≤ L2.length ∧ Hid (OR wD.heap.size 44 3 wr (.slice aa2 L2.length ca2) L2.length) ∧ Hid (Stp T2 wG wr)) (fun iv _ => L2.length - (intOf iv).toNat)
          case atStart => exact ⟨0, rfl, by omega, hOr0, Stp.refl _ _⟩
          case round =>
            obtain ⟨k, rfl, hk, hOr, hSt⟩ := hrel
            by_cases hlt : k < L2.length
            · have hltc : decide ((k : Int) < (L2.length : Int)) = true := decide_eq_true (by omega)
              obtain ⟨g, haa, hg1, hg2, hfz, hce⟩ := OR.at hOr.out (by omega)
              have hbl : (Value.slice aa2 L2.length ca2).ownBlock = some g := by rw [haa]; rfl
              have hbT := hbT0.out
              obtain ⟨x0, hx0⟩ := hce (k * 3) (by omega)
              obtain ⟨x1, hx1⟩ := hce (k * 3 + 1) (by omega)
              obtain ⟨x2, hx2⟩ := hce (k * 3 + 2) (by omega)
              have f0 := hfz (k * 3)
              have f1 := hfz (k * 3 + 1)
              have f2 := hfz (k * 3 + 2)
              have hOr2 : Hid (OR wD.heap.size 44 3 (((wr.setCell ⟨g, k * 3, none⟩ (.int .u8 0)).setCell ⟨g, k * 3 + 1, none⟩ (.string ⟨#[]⟩)).setCell ⟨g, k * 3 + 2, none⟩ (.int .i64 0)) (.slice aa2 L2.length ca2) L2.length) := by
                have hOr := hOr.out
                exact hOr.set3 hbl (k * 3) _ _ _
              have hSt2 : Hid (Stp T2 wG (((wr.setCell ⟨g, k * 3, none⟩ (.int .u8 0)).setCell ⟨g, k * 3 + 1, none⟩ (.string ⟨#[]⟩)).setCell ⟨g, k * 3 + 2, none⟩ (.int .i64 0))) := Stp.trans hSt.out (Stp.set3 _ _ _ (hbT g hbl))
              have HK : Hid (k < L2.length) := hlt
              clear hce hfz hbl hbT
              subst haa
              go_wp2_with fail
              go_roundw
              case rel => exact ⟨k + 1, by go_num, by have := HK.out; omega, hOr2, hSt2⟩
              case measure => have := HK.out; simp [intOf]; omega
            · have hltc : ¬ (k : Int) < (L2.length : Int) := by omega
              obtain rfl : k = L2.length := by omega
              go_wp2_with fail
              obtain ⟨wS2, hwS⟩ : ∃ wS, wS = wr := ⟨_, rfl⟩
              subst hwS
              clear hOr0
              go_loopw [10, 20] (fun vv iv wr => ∃ i : Nat, iv = .int .i64 i ∧ i ≤ 9 ∧ OR wD.heap.size 44 3 wr vv (L2.length + i) ∧ Hid (∀ g, vv.ownBlock = some g → T2 g) ∧ Hid (Stp T2 wG wr)) (fun _ iv _ => 9 - (intOf iv).toNat)
              case atStart => exact ⟨0, rfl, by omega, hOr.out, hbT0, hSt⟩
              case round =>
                obtain ⟨i, rfl, hi, hOr, hbT, hSt⟩ := hrel
                replace hOr : Hid _ := hOr
                by_cases hlt : i < 9
                · have hltc : decide ((i : Int) < 9) = true := decide_eq_true (by omega)
                  obtain ⟨w6, hw6, k6, t6, s6⟩ := boxed wr #[.int .u8 0, .string ⟨#[]⟩, .int .i64 (-1)] 44
                  have HK : Hid (i < 9) := hlt
                  clear hltc
                  have hltc : decide ((i : Int) < 9) = true := decide_eq_true (by omega)
                  go_wp2_with (first
                    | rw [hw6]
                    | (at_builtin; refine wpList_appO Tryd.underlying27 i44 (by kernel_rfl) (by decide) (by decide) wD.heap.size _ rfl _ _ rfl (L2.length + i) [.int .u8 0, .string ⟨#[]⟩, .int .i64 (-1)] _ rfl (OR.keep hOr.out k6) (by have h1 := Stp.size hSt.out; have h2 := hle2.out; have h3 := Keep.le k6; omega) ⟨wr.heap.size, 0, none⟩ 1 rfl rfl (at3 t6) (by simp [Value.oneCell']) (by omega) ?_; intro v7 w7 hO7 hg7 hp7
                       have hSt7 : Hid (Stp T2 wG w7) := (Stp.trans hSt.out (Stp.of_keep k6)).trans (Stp.grown hg7 hbT.out)
                       have hbT7 : Hid (∀ g, v7.ownBlock = some g → T2 g) := fun g hg => by
                         rcases hp7 with h | h
                         · exact hbT.out g (h.symm.trans hg)
                         · rw [h] at hg
                           simp only [Option.some.injEq] at hg
                           have h1 := Stp.size hSt.out
                           have h3 := Keep.le k6
                           rw [hT2.out]; exact .inr (by omega)
                       replace hO7 : Hid _ := hO7
                       clear hg7 hp7))
                  go_roundw
                  case rel => exact ⟨i + 1, by go_num, by have := HK.out; omega, hO7.out, hbT7, hSt7⟩
                  case measure => have := HK.out; simp [intOf]; omega
                · have hltc : ¬ (i : Int) < 9 := by omega
                  obtain rfl : i = 9 := by omega
                  obtain ⟨aa, ca', rfl, hcl⟩ := OR.shape hOr.out
                  obtain ⟨wH, hwd⟩ : ∃ wH, wH = wr := ⟨_, rfl⟩
                  subst hwd
                  have kwH : Hid (Keep w wH) := Stp.keep (Keep.trans (Keep.trans (Keep.trans kwD.out ka2.out) kb2.out) kc2.out) hSt.out (fun g hg => by rw [hT2.out] at hg; have h1 := hle2.out; have h2 := Keep.le kwD.out; omega)
                  have od2 : Hid (OwnW wE.heap.size (.slice ab2 L2.length cb2) L2 wH) := own_stp (own_keep ob2.out kc2.out) hSt.out (fun g h1 h2 ht => by rw [hT2.out] at ht; have h3 := hle2.out; omega)
                  have of2 : Hid (OwnW wF.heap.size (.slice ac2 L2.length cc2) L2 wH) := own_stp oc2.out hSt.out (fun g h1 h2 ht => by rw [hT2.out] at ht; have h3 := hle2.out; omega)
                  have hlc2 : Hid (wG.heap.size ≤ wH.heap.size) := Stp.size hSt.out
                  replace od1 : Hid (OwnR wA.heap.size (.slice ab1 L1.length cb1) L1 wH) := own_same (own_keep od1.out (Keep.trans (Keep.trans ka2.out kb2.out) kc2.out)) (fun b hb => by
                    obtain ⟨h1, cur, hh⟩ := own_block od1.out hb
                    have hl0 : b < wD.heap.size := lt_of_at hh
                    have h3 := hle2.out
                    exact Stp.block hSt.out b (by omega) (fun ht => by rw [hT2.out] at ht; omega))
                  replace of1 : Hid (OwnR wB.heap.size (.slice ac1 L1.length cc1) L1 wH) := own_same (own_keep of1.out (Keep.trans (Keep.trans ka2.out kb2.out) kc2.out)) (fun b hb => by
                    obtain ⟨h1, cur, hh⟩ := own_block of1.out hb
                    have hl0 : b < wD.heap.size := lt_of_at hh
                    have h3 := hle2.out
                    exact Stp.block hSt.out b (by omega) (fun ht => by rw [hT2.out] at ht; omega))
                  clear hOr hSt hbT hbT0 hltc oa2 ob2 oc2
                  have ta3 : True := trivial
                  go_wp2_with (first
                    | (go_at_call 17; have _t := tb3; refine (hc17 _).mono ?_; rintro e wJ ⟨vb3, rfl, ob3, kb3⟩
                       obtain ⟨ab3, cb3, rfl, hcb3⟩ := own_len ob3
                       replace ob3 : Hid _ := ob3
                       replace kb3 : Hid _ := kb3
                       clear tb3)
                    | (go_at_call 17; have _t := ta3; refine (hc17 _).mono ?_; rintro e wI ⟨va3, rfl, oa3, ka3⟩
                       obtain ⟨aa3, ca3, rfl, hca3⟩ := own_len oa3
                       replace oa3 : Hid _ := oa3
                       replace ka3 : Hid _ := ka3
                       clear ta3
                       have tb3 : True := trivial)
                    | (go_at_call 18; refine (hc18 _).mono ?_; rintro e wK ⟨vc3, rfl, oc3, kc3⟩
                       obtain ⟨ac3, cc3, rfl, hcc3⟩ := own_len oc3
                       replace oc3 : Hid _ := oc3
                       replace kc3 : Hid _ := kc3
                       have tc3 : True := trivial))
                  obtain ⟨T3, hT3⟩ : ∃ T : Nat → Prop, T = (fun g => (wH.heap.size ≤ g ∧ g < wI.heap.size) ∨ wK.heap.size ≤ g) := ⟨_, rfl⟩
                  have hbT0 : Hid (∀ g, (Value.slice aa3 L3.length ca3).ownBlock = some g → T3 g) := fun g hg => by
                    obtain ⟨h1, cur, hh⟩ := own_block oa3.out hg
                    rw [hT3]; exact .inl ⟨h1, lt_of_at hh⟩
                  have hOr0 : Hid (OR wH.heap.size 9 1 wK (.slice aa3 L3.length ca3) L3.length) := OR.keep (OR.of oa3.out) (Keep.trans kb3.out kc3.out)
                  have hle3 : Hid (wH.heap.size ≤ wI.heap.size ∧ wI.heap.size ≤ wJ.heap.size ∧ wJ.heap.size ≤ wK.heap.size) := ⟨Keep.le ka3.out, Keep.le kb3.out, Keep.le kc3.out⟩
                  replace hT3 : Hid _ := hT3
                  go_loopw [117] (fun iv wr => ∃ k : Nat, iv = .int .i64 k ∧ k ≤ L3.length ∧ Hid (OR wH.heap.size 9 1 wr (.slice aa3 L3.length ca3) L3.length) ∧ Hid (Stp T3 wK wr)) (fun iv _ => L3.length - (intOf iv).toNat)
                  case atStart => exact ⟨0, rfl, by omega, hOr0, Stp.refl _ _⟩
                  case round =>
                    obtain ⟨k, rfl, hk, hOr, hSt⟩ := hrel
                    by_cases hlt : k < L3.length
                    · have hltc : decide ((k : Int) < (L3.length : Int)) = true := decide_eq_true (by omega)
                      obtain ⟨g, haa, hg1, hg2, hfz, hce⟩ := OR.at hOr.out (by omega)
                      have hbl : (Value.slice aa3 L3.length ca3).ownBlock = some g := by rw [haa]; rfl
                      have hbT := hbT0.out
                      obtain ⟨x0, hx0⟩ := hce k (by omega)
                      have f0 := hfz k
                      have hOr2 : Hid (OR wH.heap.size 9 1 (wr.setCell ⟨g, k, none⟩ (.string ⟨#[103, 111, 110, 101]⟩)) (.slice aa3 L3.length ca3) L3.length) := by
                        have hOr := hOr.out
                        exact hOr.set hbl k _
                      have hSt2 : Hid (Stp T3 wK (wr.setCell ⟨g, k, none⟩ (.string ⟨#[103, 111, 110, 101]⟩))) := Stp.trans hSt.out (Stp.set _ (hbT g hbl))
                      have HK : Hid (k < L3.length) := hlt
                      clear hce hfz hbl hbT
                      subst haa
                      go_wp2_with fail
                      go_roundw
                      case rel => exact ⟨k + 1, by go_num, by have := HK.out; omega, hOr2, hSt2⟩
                      case measure => have := HK.out; simp [intOf]; omega
                    · have hltc : ¬ (k : Int) < (L3.length : Int) := by omega
                      obtain rfl : k = L3.length := by omega
                      go_wp2_with fail
                      obtain ⟨wS3, hwS⟩ : ∃ wS, wS = wr := ⟨_, rfl⟩
                      subst hwS
                      clear hOr0
                      go_loopw [21, 31] (fun vv iv wr => ∃ i : Nat, iv = .int .i64 i ∧ i ≤ 9 ∧ OR wH.heap.size 9 1 wr vv (L3.length + i) ∧ Hid (∀ g, vv.ownBlock = some g → T3 g) ∧ Hid (Stp T3 wK wr)) (fun _ iv _ => 9 - (intOf iv).toNat)
                      case atStart => exact ⟨0, rfl, by omega, hOr.out, hbT0, hSt⟩
                      case round =>
                        obtain ⟨i, rfl, hi, hOr, hbT, hSt⟩ := hrel
                        replace hOr : Hid _ := hOr
                        by_cases hlt : i < 9
                        · have hltc : decide ((i : Int) < 9) = true := decide_eq_true (by omega)
                          obtain ⟨w6, hw6, k6, t6, s6⟩ := boxed wr #[.string ⟨#[109, 111, 114, 101]⟩] 9
                          have HK : Hid (i < 9) := hlt
                          clear hltc
                          have hltc : decide ((i : Int) < 9) = true := decide_eq_true (by omega)
                          go_wp2_with (first
                            | rw [hw6]
                            | (at_builtin; refine wpList_appO Tryd.underlying32 i9 (by kernel_rfl) (by decide) (by decide) wH.heap.size _ rfl _ _ rfl (L3.length + i) [.string ⟨#[109, 111, 114, 101]⟩] _ rfl (OR.keep hOr.out k6) (by have h1 := Stp.size hSt.out; have h2 := hle3.out; have h3 := Keep.le k6; omega) ⟨wr.heap.size, 0, none⟩ 1 rfl rfl (at1 t6) (by simp [Value.oneCell']) (by omega) ?_; intro v7 w7 hO7 hg7 hp7
                               have hSt7 : Hid (Stp T3 wK w7) := (Stp.trans hSt.out (Stp.of_keep k6)).trans (Stp.grown hg7 hbT.out)
                               have hbT7 : Hid (∀ g, v7.ownBlock = some g → T3 g) := fun g hg => by
                                 rcases hp7 with h | h
                                 · exact hbT.out g (h.symm.trans hg)
                                 · rw [h] at hg
                                   simp only [Option.some.injEq] at hg
                                   have h1 := Stp.size hSt.out
                                   have h3 := Keep.le k6
                                   rw [hT3.out]; exact .inr (by omega)
                               replace hO7 : Hid _ := hO7
                               clear hg7 hp7))
                          go_roundw
                          case rel => exact ⟨i + 1, by go_num, by have := HK.out; omega, hO7.out, hbT7, hSt7⟩
                          case measure => have := HK.out; simp [intOf]; omega
                        · have hltc : ¬ (i : Int) < 9 := by omega
                          obtain rfl : i = 9 := by omega
                          obtain ⟨aa, ca', rfl, hcl⟩ := OR.shape hOr.out
                          obtain ⟨wL, hwd⟩ : ∃ wL, wL = wr := ⟨_, rfl⟩
                          subst hwd
                          have kwL : Hid (Keep w wL) := Stp.keep (Keep.trans (Keep.trans (Keep.trans kwH.out ka3.out) kb3.out) kc3.out) hSt.out (fun g hg => by rw [hT3.out] at hg; have h1 := hle3.out; have h2 := Keep.le kwH.out; omega)
                          have od3 : Hid (OwnS wI.heap.size (.slice ab3 L3.length cb3) L3 wL) := own_stp (own_keep ob3.out kc3.out) hSt.out (fun g h1 h2 ht => by rw [hT3.out] at ht; have h3 := hle3.out; omega)
                          have of3 : Hid (OwnS wJ.heap.size (.slice ac3 L3.length cc3) L3 wL) := own_stp oc3.out hSt.out (fun g h1 h2 ht => by rw [hT3.out] at ht; have h3 := hle3.out; omega)
                          have hlc3 : Hid (wK.heap.size ≤ wL.heap.size) := Stp.size hSt.out
                          replace od1 : Hid (OwnR wA.heap.size (.slice ab1 L1.length cb1) L1 wL) := own_same (own_keep od1.out (Keep.trans (Keep.trans ka3.out kb3.out) kc3.out)) (fun b hb => by
                            obtain ⟨h1, cur, hh⟩ := own_block od1.out hb
                            have hl0 : b < wH.heap.size := lt_of_at hh
                            have h3 := hle3.out
                            exact Stp.block hSt.out b (by omega) (fun ht => by rw [hT3.out] at ht; omega))
                          replace of1 : Hid (OwnR wB.heap.size (.slice ac1 L1.length cc1) L1 wL) := own_same (own_keep of1.out (Keep.trans (Keep.trans ka3.out kb3.out) kc3.out)) (fun b hb => by
                            obtain ⟨h1, cur, hh⟩ := own_block of1.out hb
                            have hl0 : b < wH.heap.size := lt_of_at hh
                            have h3 := hle3.out
                            exact Stp.block hSt.out b (by omega) (fun ht => by rw [hT3.out] at ht; omega))
                          replace od2 : Hid (OwnW wE.heap.size (.slice ab2 L2.length cb2) L2 wL) := own_same (own_keep od2.out (Keep.trans (Keep.trans ka3.out kb3.out) kc3.out)) (fun b hb => by
                            obtain ⟨h1, cur, hh⟩ := own_block od2.out hb
                            have hl0 : b < wH.heap.size := lt_of_at hh
                            have h3 := hle3.out
                            exact Stp.block hSt.out b (by omega) (fun ht => by rw [hT3.out] at ht; omega))
                          replace of2 : Hid (OwnW wF.heap.size (.slice ac2 L2.length cc2) L2 wL) := own_same (own_keep of2.out (Keep.trans (Keep.trans ka3.out kb3.out) kc3.out)) (fun b hb => by
                            obtain ⟨h1, cur, hh⟩ := own_block of2.out hb
                            have hl0 : b < wH.heap.size := lt_of_at hh
                            have h3 := hle3.out
                            exact Stp.block hSt.out b (by omega) (fun ht => by rw [hT3.out] at ht; omega))
                          clear hOr hSt hbT hbT0 hltc oa3 ob3 oc3
                          have ta4 : True := trivial
                          have rb1 := own_rdg od1.out
                          obtain ⟨_, _, hq, _, rb1⟩ := rb1
                          cases hq
                          obtain ⟨_, _, hq, _, rc1⟩ := own_rdg of1.out
                          cases hq
                          obtain ⟨_, _, hq, _, rb2⟩ := own_rdg od2.out
                          cases hq
                          obtain ⟨_, _, hq, _, rc2⟩ := own_rdg of2.out
                          cases hq
                          obtain ⟨_, _, hq, _, rb3⟩ := own_rdg od3.out
                          cases hq
                          obtain ⟨_, _, hq, _, rc3⟩ := own_rdg of3.out
                          cases hq
                          replace rb1 : Hid _ := rb1
                          replace rc1 : Hid _ := rc1
                          replace rb2 : Hid _ := rb2
                          replace rc2 : Hid _ := rc2
                          replace rb3 : Hid _ := rb3
                          replace rc3 : Hid _ := rc3
                          have hq1 : (((L1.length + 9 : Nat) : Int) == (L1.length : Int) + 9) = true := by rw [beq_iff_eq]; omega
                          have hq2 : (((L2.length + 9 : Nat) : Int) == (L2.length : Int) + 9) = true := by rw [beq_iff_eq]; omega
                          have hq3 : (((L3.length + 9 : Nat) : Int) == (L3.length : Int) + 9) = true := by rw [beq_iff_eq]; omega
                          have s1 : True := trivial
                          go_wp2_with (first
                            | (go_at_call 11; have _t := s3; refine (eq1.out a9 ac1 c9 cc1 wn r9.out (RdG.keep rc1.out (Keep.trans km.out kn.out))).mono ?_; rintro e wp ⟨rfl, kp⟩; replace kp : Hid _ := kp; clear s3)
                            | (go_at_call 11; have _t := s1; refine (eq1.out ab1 ac1 cb1 cc1 wL rb1.out rc1.out).mono ?_; rintro e wm ⟨rfl, km⟩; replace km : Hid _ := km; clear s1; have s2 : True := trivial)
                            | (go_at_call 12; have _t := s2; refine (hc12 _).mono ?_; rintro e wn ⟨v9, rfl, o9, kn⟩
                               obtain ⟨a9, c9, rfl, hc9, r9⟩ := own_rdg o9
                               replace r9 : Hid _ := r9
                               replace kn : Hid _ := kn
                               clear s2 o9
                               have s3 : True := trivial)
                            | (go_at_call 16; refine (eq2.out ab2 ac2 cb2 cc2 wp (RdG.keep rb2.out (Keep.trans (Keep.trans km.out kn.out) kp.out)) (RdG.keep rc2.out (Keep.trans (Keep.trans km.out kn.out) kp.out))).mono ?_; rintro e wq ⟨rfl, kq⟩; replace kq : Hid _ := kq)
                            | (go_at_call 21; refine (eq3.out ab3 ac3 cb3 cc3 wq (RdG.keep rb3.out (Keep.trans (Keep.trans (Keep.trans km.out kn.out) kp.out) kq.out)) (RdG.keep rc3.out (Keep.trans (Keep.trans (Keep.trans km.out kn.out) kp.out) kq.out))).mono ?_; rintro e wv ⟨rfl, kv⟩; replace kv : Hid _ := kv))
                          go_ret
                          exact ⟨rfl, Keep.trans (Keep.trans (Keep.trans (Keep.trans (Keep.trans kwL.out km.out) kn.out) kp.out) kq.out) kv.out⟩
end Go.Proofs.YtonfjmibnnioiaaDoor
