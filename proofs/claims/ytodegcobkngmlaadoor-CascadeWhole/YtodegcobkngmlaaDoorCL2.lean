import Derived.Test.YtodegcobkngmlaaDoorCL2A
import Derived.Deep.QuietTactic
import Derived.Deep.CutBlock
import Derived.Deep.CutRange
set_option linter.unusedVariables false
set_option linter.unusedSimpArgs false
namespace Go.Proofs.YtodegcobkngmlaaDoor
open Go.RowKit Go.Shelf
set_option maxRecDepth 100000 in
set_option maxHeartbeats 8000000 in
theorem holds_ok (nm : ByteArray) (fa : Option Addr) (fs : List ByteArray) (cf : Nat) (N : Int) (ba : Option Addr) (base : List Int) (cb : Nat) (ta : Option Addr) (ts : List (Int × List Nd)) (ct : Nat) (ax : Option Addr) (xs : List Nat) (cx : Nat) (w : World) (hA : EnA w nm fa fs ba base ta ts) (hcb : base.length ≤ cb) (hx : RdF w ax xs) (hxl : xs.length ≤ 17592186044416) (hc : (chB nm fs N base ts).1 = 0) (hxe : xs.length = fs.length) :
    Calls Tryd.prog 3 #[.agg (ev nm fa fs.length cf N ba base.length cb ta ts.length ct), .slice ax xs.length cx] w fun e w' => e = .returned (.bool true) ∧ Keep w w' := by
  obtain ⟨w1, hw1, k1, t1, s1⟩ := boxed w (ev nm fa fs.length cf N ba base.length cb ta ts.length ct) 26
  have htl := hA.er.tl
  have hbl := hA.er.bl
  have R := rtE hc hxe
  have hX : exE nm fs N base ts xs.length = 0 := by unfold exE; rw [if_pos hc, if_pos hxe]
  obtain ⟨hsc, SC⟩ := scE hc hxe
  have hB := begins_any w1 (hA.tb.keep k1)
  have hV := fun wx (q : Keep w1 wx) => Valid_any nm fa fs cf N ba base cb ta ts ct wx ((hA.keep k1).keep q)
  have hS := fun wx (q : Keep w1 wx) => Score_any nm fa fs.length cf N ba base cb ta ts ct ax xs cx wx ((hA.er.rb.keep k1).keep q) hcb hA.er.bl ((hA.er.rt.keep k1).keep q) (by omega) ((hx.keep k1).keep q) hxl (by have := hA.fl; omega)
  unfold ens at hS
  have hBo : ∀ wx, Keep w1 wx → ∀ k : Nat, k ≤ ts.length → Calls Tryd.prog 8 #[.agg (ev nm fa fs.length cf N ba base.length cb ta ts.length ct), .slice ax xs.length cx, .int .i64 (k : Int)] wx fun e w' => ∃ g, e = .returned (.tuple #[.slice (some ⟨g, 0, none⟩) base.length base.length, .int .i64 0]) ∧ w'.heap[g]? = some (.cells (VB (beL base ts (vX xs) k)).toArray 37 (0, 0)) ∧ Keep wx w' := by
    intro wx q k hk
    refine (callsIn_wide.1 (Bounds_in 3 (by omega) nm fa fs cf N ba base cb ta ts ct ax xs cx (k : Int) wx ((hA.keep k1).keep q) ((hx.keep k1).keep q) hX R hxl)).mono ?_
    rintro e w' ⟨kk, ⟨-, -, g, rfl, -, hG⟩ | ⟨hno, -⟩⟩
    · exact ⟨g, rfl, by simpa using hG, kk⟩
    · exact absurd ⟨by omega, by omega⟩ hno
  rw [hsc] at hS
  rw [hc] at hV
  replace hV : ∀ wx, Keep w1 wx → Calls Tryd.prog 7 #[.agg (ev nm fa fs.length cf N ba base.length cb ta ts.length ct)] wx (fun e w' => e = .returned (.bool true) ∧ Keep wx w') := hV
  obtain ⟨sl, hsl⟩ : ∃ sl, (scS fs.length N base ts xs).1 = sl := ⟨_, rfl⟩
  rw [hsl] at hS SC
  have hlen : Hid (sl.length = base.length) := SC.len
  have hn64 : base.length ≤ 64 := R.nl
  have ht64 : ts.length ≤ 65536 := R.tl
  replace SC : Hid _ := SC
  replace hBo : Hid _ := hBo
  clear hsl hsc hX R hc hxe
  go_enter Tryd.func3, Tryd.ntmps3
  go_wp2_with (first
    | rw [hw1]
    | (go_at_call 5; refine hB.mono ?_; rintro e w2 ⟨rfl, k2⟩; obtain ⟨y0, y1, y2, y3, y4⟩ := cells5 (k2.at t1))
    | (go_at_call 6; refine (hS w2 k2).mono ?_; rintro e w3 ⟨v, rfl, O3, k3⟩; have k13 := k2.trans k3; clear y0 y1 y2 y3 y4; obtain ⟨y0, y1, y2, y3, y4⟩ := cells5 (k13.at t1); obtain ⟨sa, scp, rfl, hscp, hsr⟩ := O3.shape; rw [hlen.out] at hscp ⊢; replace hsr : Hid _ := hsr; clear O3)
    | (go_at_call 7; refine (hV w3 k13).mono ?_; rintro e w4 ⟨rfl, k4⟩; have k14 := k13.trans k4; clear y0 y1 y2 y3 y4))
  clear hB hS hV hw1
  go_loopw [9, 10] (fun wv iv wr => ∃ k : Nat, iv = .int .i64 (k : Int) ∧ k ≤ ts.length + 1 ∧ Hid ((k = 0 ∧ wv = .slice none 0 0) ∨ ∃ g k', k = k' + 1 ∧ wv = .slice (some ⟨g, 0, none⟩) base.length base.length ∧ wr.heap[g]? = some (.cells (VB (beL base ts (vX xs) k')).toArray 37 (0, 0))) ∧ Keep w4 wr) (fun _ iv _ => ts.length + 1 - (intOf iv).toNat)
  case atStart => exact ⟨0, rfl, by omega, .inl ⟨rfl, rfl⟩, Keep.refl _⟩
  case round =>
    obtain ⟨k, rfl, hk, hwas, kr⟩ := hrel
    have k1r := k14.trans kr
    obtain ⟨y0, y1, y2, y3, y4⟩ := cells5 (k1r.at t1)
    obtain ⟨wo, hwo⟩ : ∃ wo, wo = wr := ⟨_, rfl⟩
    subst hwo
    by_cases hkl : k ≤ ts.length
    · have hkc : (k : Int) ≤ (ts.length : Int) := by omega
      have hB8 := hBo.out wo k1r k hkl
      have HK : Hid (k ≤ ts.length) := hkl
      have hbb : ((base.length : Int) != (base.length : Int)) = false := by simp
      clear hkl hk
      go_wp2_with (go_at_call 8; refine hB8.mono ?_; rintro e w6 ⟨g, rfl, hG, k6⟩; have k16 := k1r.trans k6; clear y0 y1 y2 y3 y4; have q4 := (cells5 (k16.at t1)).2.2.2.2)
      have W6 : Hid ((k = 0 ∧ _) ∨ _) := hwas
      go_loopw [13] (fun iv wr => ∃ o : Nat, iv = .int .i64 (o : Int) ∧ o ≤ base.length ∧ Keep w6 wr) (fun iv _ => base.length - (intOf iv).toNat)
      case atStart => exact ⟨0, rfl, by omega, Keep.refl _⟩
      case round =>
        obtain ⟨o, rfl, hol, ko⟩ := hrel
        by_cases hob : o < base.length
        · have hoc : (o : Int) < (base.length : Int) := by omega
          have HOL : Hid (o < base.length) := hob
          have kL := beL_len base ts (vX xs)
          obtain ⟨⟨lo, hi⟩, hlh⟩ : ∃ ab, (beL base ts (vX xs) k).getD o (0, 0) = ab := ⟨_, rfl⟩
          obtain ⟨c0, c1⟩ := VB_at (ko.at hG) (by rw [kL]; exact hob) hlh
          obtain ⟨sb, so, rfl, cs⟩ := (RdI.keep hsr.out (((Keep.trans k4 kr).trans k6).trans ko)) o (by rw [hlen.out]; exact hob)
          have hs1 := SC.out.lo k HK.out o hob
          have hs2 := SC.out.hi k HK.out o hob
          have hal : k = ts.length → lo = hi := by
            intro q
            have := SC.out.al o hob
            rw [← q, hlh] at this
            have h1 := (Prod.mk.inj this).1
            have h2 := (Prod.mk.inj this).2
            omega
          have hri : ∀ k', k = k' + 1 → ((beL base ts (vX xs) k').getD o (0, 0)).1 ≤ lo ∧ hi ≤ ((beL base ts (vX xs) k').getD o (0, 0)).2 := by
            intro k' q
            have q' := HK.out
            have h1 := SC.out.rl k' (by omega) o hob
            have h2 := SC.out.rh k' (by omega) o hob
            rw [← q, hlh] at h1 h2
            exact ⟨h1, h2⟩
          rw [hlh] at hs1 hs2
          obtain ⟨sv, hsv⟩ : ∃ sv, sl.getD o 0 = sv := ⟨_, rfl⟩
          rw [hsv] at cs hs1 hs2
          clear hlh hsv kL hob
          have g1 : decide (lo > sv) = false := decide_eq_false (by simp only at hs1; omega)
          have g2 : decide (hi < sv) = false := decide_eq_false (by simp only at hs2; omega)
          have q5 := ko.cell q4
          clear hs1 hs2
          rcases hwas.out with ⟨hk0, rfl⟩ | ⟨gw, k', hk1, rfl, hgw⟩
          · have g3 : decide ((k : Int) > 0) = false := decide_eq_false (by omega)
            have g3n : ¬ 0 < k := by omega
            by_cases hkt : k = ts.length
            · have g4 : ((k : Int) == (ts.length : Int)) = true := by rw [hkt]; simp
              have g5 : (lo != hi) = false := by rw [hal hkt]; simp
              clear hal hri hk0 hkt hol
              replace ko : Hid _ := ko
              go_wp2_with fail
              try dsimp only [List.append]
              refine wp_region_quiet_lit (by kernel_rfl) (by kernel_rfl) ?_
              iterate 12
                with_reducible refine wpQuiet_step ?_
                intro K hK
                go_simp
                first
                  | (with_reducible refine hK _ ?_; clear hK K)
                  | (with_reducible refine (if_neg ?_).mpr (hK _ ?_)
                     · decide
                     clear hK K)
                  | (apply Exists.intro
                     refine ⟨fun _ => ?_, hK _ ?_⟩
                     · with_reducible rfl
                     clear hK K)
              as_aux_lemma =>
                iterate 12
                  with_reducible refine wpQuiet_step ?_
                  intro K hK
                  go_simp
                  first
                    | (with_reducible refine hK _ ?_; clear hK K)
                    | (with_reducible refine (if_neg ?_).mpr (hK _ ?_)
                       · decide
                       clear hK K)
                    | (apply Exists.intro
                       refine ⟨fun _ => ?_, hK _ ?_⟩
                       · with_reducible rfl
                       clear hK K)
                as_aux_lemma =>
                  iterate 12
                    with_reducible refine wpQuiet_step ?_
                    intro K hK
                    go_simp
                    first
                      | (with_reducible refine hK _ ?_; clear hK K)
                      | (with_reducible refine (if_neg ?_).mpr (hK _ ?_)
                         · decide
                         clear hK K)
                      | (apply Exists.intro
                         refine ⟨fun _ => ?_, hK _ ?_⟩
                         · with_reducible rfl
                         clear hK K)
                  as_aux_lemma =>
                    iterate 12
                      with_reducible refine wpQuiet_step ?_
                      intro K hK
                      go_simp
                      first
                        | (with_reducible refine hK _ ?_; clear hK K)
                        | (with_reducible refine (if_neg ?_).mpr (hK _ ?_)
                           · decide
                           clear hK K)
                        | (apply Exists.intro
                           refine ⟨fun _ => ?_, hK _ ?_⟩
                           · with_reducible rfl
                           clear hK K)
                    as_aux_lemma =>
                      iterate 12
                        with_reducible refine wpQuiet_step ?_
                        intro K hK
                        go_simp
                        first
                          | (with_reducible refine hK _ ?_; clear hK K)
                          | (with_reducible refine (if_neg ?_).mpr (hK _ ?_)
                             · decide
                             clear hK K)
                          | (apply Exists.intro
                             refine ⟨fun _ => ?_, hK _ ?_⟩
                             · with_reducible rfl
                             clear hK K)
                      as_aux_lemma =>
                        iterate 12
                          with_reducible refine wpQuiet_step ?_
                          intro K hK
                          go_simp
                          first
                            | (with_reducible refine hK _ ?_; clear hK K)
                            | (with_reducible refine (if_neg ?_).mpr (hK _ ?_)
                               · decide
                               clear hK K)
                            | (apply Exists.intro
                               refine ⟨fun _ => ?_, hK _ ?_⟩
                               · with_reducible rfl
                               clear hK K)
                        as_aux_lemma =>
                          refine wpQuiet_nil ?_
                          rintro _ ⟨nq, rfl⟩
                          go_wp2_with fail
                          go_roundw
                          case rel => exact ⟨o + 1, by go_num, by have := HOL.out; omega, Keep.drewN (Hid.out ko) _⟩
                          case measure => have := HOL.out; simp [intOf]; omega
            · have g4 : ((k : Int) == (ts.length : Int)) = false := by rw [beq_eq_false_iff_ne]; omega
              clear hal hri hk0 hkt hol
              replace ko : Hid _ := ko
              go_wp2_with fail
              try dsimp only [List.append]
              refine wp_region_quiet_lit (by kernel_rfl) (by kernel_rfl) ?_
              iterate 12
                with_reducible refine wpQuiet_step ?_
                intro K hK
                go_simp
                first
                  | (with_reducible refine hK _ ?_; clear hK K)
                  | (with_reducible refine (if_neg ?_).mpr (hK _ ?_)
                     · decide
                     clear hK K)
                  | (apply Exists.intro
                     refine ⟨fun _ => ?_, hK _ ?_⟩
                     · with_reducible rfl
                     clear hK K)
              as_aux_lemma =>
                iterate 12
                  with_reducible refine wpQuiet_step ?_
                  intro K hK
                  go_simp
                  first
                    | (with_reducible refine hK _ ?_; clear hK K)
                    | (with_reducible refine (if_neg ?_).mpr (hK _ ?_)
                       · decide
                       clear hK K)
                    | (apply Exists.intro
                       refine ⟨fun _ => ?_, hK _ ?_⟩
                       · with_reducible rfl
                       clear hK K)
                as_aux_lemma =>
                  iterate 12
                    with_reducible refine wpQuiet_step ?_
                    intro K hK
                    go_simp
                    first
                      | (with_reducible refine hK _ ?_; clear hK K)
                      | (with_reducible refine (if_neg ?_).mpr (hK _ ?_)
                         · decide
                         clear hK K)
                      | (apply Exists.intro
                         refine ⟨fun _ => ?_, hK _ ?_⟩
                         · with_reducible rfl
                         clear hK K)
                  as_aux_lemma =>
                    iterate 12
                      with_reducible refine wpQuiet_step ?_
                      intro K hK
                      go_simp
                      first
                        | (with_reducible refine hK _ ?_; clear hK K)
                        | (with_reducible refine (if_neg ?_).mpr (hK _ ?_)
                           · decide
                           clear hK K)
                        | (apply Exists.intro
                           refine ⟨fun _ => ?_, hK _ ?_⟩
                           · with_reducible rfl
                           clear hK K)
                    as_aux_lemma =>
                      iterate 12
                        with_reducible refine wpQuiet_step ?_
                        intro K hK
                        go_simp
                        first
                          | (with_reducible refine hK _ ?_; clear hK K)
                          | (with_reducible refine (if_neg ?_).mpr (hK _ ?_)
                             · decide
                             clear hK K)
                          | (apply Exists.intro
                             refine ⟨fun _ => ?_, hK _ ?_⟩
                             · with_reducible rfl
                             clear hK K)
                      as_aux_lemma =>
                        iterate 12
                          with_reducible refine wpQuiet_step ?_
                          intro K hK
                          go_simp
                          first
                            | (with_reducible refine hK _ ?_; clear hK K)
                            | (with_reducible refine (if_neg ?_).mpr (hK _ ?_)
                               · decide
                               clear hK K)
                            | (apply Exists.intro
                               refine ⟨fun _ => ?_, hK _ ?_⟩
                               · with_reducible rfl
                               clear hK K)
                        as_aux_lemma =>
                          refine wpQuiet_nil ?_
                          rintro _ ⟨nq, rfl⟩
                          go_wp2_with fail
                          go_roundw
                          case rel => exact ⟨o + 1, by go_num, by have := HOL.out; omega, Keep.drewN (Hid.out ko) _⟩
                          case measure => have := HOL.out; simp [intOf]; omega
          · have g3 : decide ((k : Int) > 0) = true := decide_eq_true (by omega)
            have g3n : 0 < k := by omega
            obtain ⟨h1, h2⟩ := hri k' hk1
            obtain ⟨⟨lo', hi'⟩, hlh'⟩ : ∃ ab, (beL base ts (vX xs) k').getD o (0, 0) = ab := ⟨_, rfl⟩
            obtain ⟨d0, d1⟩ := VB_at (ko.at (k6.at hgw)) (by rw [beL_len]; exact HOL.out) hlh'
            rw [hlh'] at h1 h2
            have g6 : decide (lo < lo') = false := decide_eq_false (by simp only at h1; omega)
            have g7 : decide (hi > hi') = false := decide_eq_false (by simp only at h2; omega)
            clear hlh' h1 h2 hgw
            by_cases hkt : k = ts.length
            · have g4 : ((k : Int) == (ts.length : Int)) = true := by rw [hkt]; simp
              have g5 : (lo != hi) = false := by rw [hal hkt]; simp
              clear hal hri hk1 hkt hol
              replace ko : Hid _ := ko
              go_wp2_with fail
              try dsimp only [List.append]
              refine wp_region_quiet_lit (by kernel_rfl) (by kernel_rfl) ?_
              iterate 12
                with_reducible refine wpQuiet_step ?_
                intro K hK
                go_simp
                first
                  | (with_reducible refine hK _ ?_; clear hK K)
                  | (with_reducible refine (if_neg ?_).mpr (hK _ ?_)
                     · decide
                     clear hK K)
                  | (apply Exists.intro
                     refine ⟨fun _ => ?_, hK _ ?_⟩
                     · with_reducible rfl
                     clear hK K)
              as_aux_lemma =>
                iterate 12
                  with_reducible refine wpQuiet_step ?_
                  intro K hK
                  go_simp
                  first
                    | (with_reducible refine hK _ ?_; clear hK K)
                    | (with_reducible refine (if_neg ?_).mpr (hK _ ?_)
                       · decide
                       clear hK K)
                    | (apply Exists.intro
                       refine ⟨fun _ => ?_, hK _ ?_⟩
                       · with_reducible rfl
                       clear hK K)
                as_aux_lemma =>
                  iterate 12
                    with_reducible refine wpQuiet_step ?_
                    intro K hK
                    go_simp
                    first
                      | (with_reducible refine hK _ ?_; clear hK K)
                      | (with_reducible refine (if_neg ?_).mpr (hK _ ?_)
                         · decide
                         clear hK K)
                      | (apply Exists.intro
                         refine ⟨fun _ => ?_, hK _ ?_⟩
                         · with_reducible rfl
                         clear hK K)
                  as_aux_lemma =>
                    iterate 12
                      with_reducible refine wpQuiet_step ?_
                      intro K hK
                      go_simp
                      first
                        | (with_reducible refine hK _ ?_; clear hK K)
                        | (with_reducible refine (if_neg ?_).mpr (hK _ ?_)
                           · decide
                           clear hK K)
                        | (apply Exists.intro
                           refine ⟨fun _ => ?_, hK _ ?_⟩
                           · with_reducible rfl
                           clear hK K)
                    as_aux_lemma =>
                      iterate 12
                        with_reducible refine wpQuiet_step ?_
                        intro K hK
                        go_simp
                        first
                          | (with_reducible refine hK _ ?_; clear hK K)
                          | (with_reducible refine (if_neg ?_).mpr (hK _ ?_)
                             · decide
                             clear hK K)
                          | (apply Exists.intro
                             refine ⟨fun _ => ?_, hK _ ?_⟩
                             · with_reducible rfl
                             clear hK K)
                      as_aux_lemma =>
                        iterate 12
                          with_reducible refine wpQuiet_step ?_
                          intro K hK
                          go_simp
                          first
                            | (with_reducible refine hK _ ?_; clear hK K)
                            | (with_reducible refine (if_neg ?_).mpr (hK _ ?_)
                               · decide
                               clear hK K)
                            | (apply Exists.intro
                               refine ⟨fun _ => ?_, hK _ ?_⟩
                               · with_reducible rfl
                               clear hK K)
                        as_aux_lemma =>
                          refine wpQuiet_nil ?_
                          rintro _ ⟨nq, rfl⟩
                          go_wp2_with fail
                          go_roundw
                          case rel => exact ⟨o + 1, by go_num, by have := HOL.out; omega, Keep.drewN (Hid.out ko) _⟩
                          case measure => have := HOL.out; simp [intOf]; omega
            · have g4 : ((k : Int) == (ts.length : Int)) = false := by rw [beq_eq_false_iff_ne]; omega
              clear hal hri hk1 hkt hol
              replace ko : Hid _ := ko
              go_wp2_with fail
              try dsimp only [List.append]
              refine wp_region_quiet_lit (by kernel_rfl) (by kernel_rfl) ?_
              iterate 12
                with_reducible refine wpQuiet_step ?_
                intro K hK
                go_simp
                first
                  | (with_reducible refine hK _ ?_; clear hK K)
                  | (with_reducible refine (if_neg ?_).mpr (hK _ ?_)
                     · decide
                     clear hK K)
                  | (apply Exists.intro
                     refine ⟨fun _ => ?_, hK _ ?_⟩
                     · with_reducible rfl
                     clear hK K)
              as_aux_lemma =>
                iterate 12
                  with_reducible refine wpQuiet_step ?_
                  intro K hK
                  go_simp
                  first
                    | (with_reducible refine hK _ ?_; clear hK K)
                    | (with_reducible refine (if_neg ?_).mpr (hK _ ?_)
                       · decide
                       clear hK K)
                    | (apply Exists.intro
                       refine ⟨fun _ => ?_, hK _ ?_⟩
                       · with_reducible rfl
                       clear hK K)
                as_aux_lemma =>
                  iterate 12
                    with_reducible refine wpQuiet_step ?_
                    intro K hK
                    go_simp
                    first
                      | (with_reducible refine hK _ ?_; clear hK K)
                      | (with_reducible refine (if_neg ?_).mpr (hK _ ?_)
                         · decide
                         clear hK K)
                      | (apply Exists.intro
                         refine ⟨fun _ => ?_, hK _ ?_⟩
                         · with_reducible rfl
                         clear hK K)
                  as_aux_lemma =>
                    iterate 12
                      with_reducible refine wpQuiet_step ?_
                      intro K hK
                      go_simp
                      first
                        | (with_reducible refine hK _ ?_; clear hK K)
                        | (with_reducible refine (if_neg ?_).mpr (hK _ ?_)
                           · decide
                           clear hK K)
                        | (apply Exists.intro
                           refine ⟨fun _ => ?_, hK _ ?_⟩
                           · with_reducible rfl
                           clear hK K)
                    as_aux_lemma =>
                      iterate 12
                        with_reducible refine wpQuiet_step ?_
                        intro K hK
                        go_simp
                        first
                          | (with_reducible refine hK _ ?_; clear hK K)
                          | (with_reducible refine (if_neg ?_).mpr (hK _ ?_)
                             · decide
                             clear hK K)
                          | (apply Exists.intro
                             refine ⟨fun _ => ?_, hK _ ?_⟩
                             · with_reducible rfl
                             clear hK K)
                      as_aux_lemma =>
                        iterate 12
                          with_reducible refine wpQuiet_step ?_
                          intro K hK
                          go_simp
                          first
                            | (with_reducible refine hK _ ?_; clear hK K)
                            | (with_reducible refine (if_neg ?_).mpr (hK _ ?_)
                               · decide
                               clear hK K)
                            | (apply Exists.intro
                               refine ⟨fun _ => ?_, hK _ ?_⟩
                               · with_reducible rfl
                               clear hK K)
                        as_aux_lemma =>
                          refine wpQuiet_nil ?_
                          rintro _ ⟨nq, rfl⟩
                          go_wp2_with fail
                          go_roundw
                          case rel => exact ⟨o + 1, by go_num, by have := HOL.out; omega, Keep.drewN (Hid.out ko) _⟩
                          case measure => have := HOL.out; simp [intOf]; omega
        · have hoc : ¬ (o : Int) < (base.length : Int) := by omega
          go_wp2_with fail
          go_roundw
          case rel => exact ⟨k + 1, by go_num, by have := HK.out; omega, .inr ⟨g, k, rfl, rfl, ko.at hG⟩, (kr.trans k6).trans ko⟩
          case measure => have := HK.out; simp [intOf]; omega
    · have hkc : ¬ (k : Int) ≤ (ts.length : Int) := by omega
      go_wp2_with fail
      go_ret
      exact ⟨rfl, k1.trans k1r⟩
end Go.Proofs.YtodegcobkngmlaaDoor
