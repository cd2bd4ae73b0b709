import Derived.Test.YtonfjmibnnioiaaDoorZ2
import Derived.Deep.CutBlock
import Derived.Deep.CutRange
set_option linter.unusedVariables false
set_option linter.unusedSimpArgs false
namespace Go.Proofs.YtonfjmibnnioiaaDoor
open Go.RowKit Go.Shelf
theorem ud_nq (l acc : List UInt8) (j n : Nat) (h : j < l.length) (hc : l.getD j 0 ≠ 34) : ud (l.drop j) acc n = ud (l.drop (j + 1)) (acc ++ [l.getD j 0]) (n + 1) := by
  rw [drop_cons l j h, ud_cons _ _ _ _ hc]
theorem ud_q2 (l acc : List UInt8) (j n : Nat) (h : j + 1 < l.length) (hc : l.getD j 0 = 34) (hd : l.getD (j + 1) 0 = 34) : ud (l.drop j) acc n = ud (l.drop (j + 2)) (acc ++ [34]) (n + 2) := by
  rw [drop_cons l j (by omega), drop_cons l (j + 1) h, hc, hd, ud_two]
theorem ud_q1 (l acc : List UInt8) (j n : Nat) (h : j < l.length) (hc : l.getD j 0 = 34) (hd : ¬ (j + 1 < l.length ∧ l.getD (j + 1) 0 = 34)) : ud (l.drop j) acc n = (acc, n + 1, true) := by
  rw [drop_cons l j h, hc]
  by_cases h1 : j + 1 < l.length
  · rw [drop_cons l (j + 1) h1, ud_last _ _ _ _ (fun e => hd ⟨h1, e⟩)]
  · rw [List.drop_eq_nil_of_le (by omega), ud_end]
/-- What stands behind a field. -/
theorem fd_bad (l : List UInt8) (k m : Nat) (y : UInt8) (acc : List (List UInt8)) (t : List UInt8) (hff : ff (l.drop k) y = (t, m, false)) : fd k (l.drop k) y acc = ([], 31, k + m) := by
  rw [fd_step, hff]; rfl
theorem fd_end (l : List UInt8) (k m : Nat) (y : UInt8) (acc : List (List UInt8)) (t : List UInt8) (hff : ff (l.drop k) y = (t, m, true)) (h : k + m = l.length) : fd k (l.drop k) y acc = (acc ++ [t], 0, 0) := by
  rw [fd_step, hff]
  simp only [List.drop_drop, h, List.drop_length]
  rfl
theorem fd_off (l : List UInt8) (k m : Nat) (y : UInt8) (acc : List (List UInt8)) (t : List UInt8) (hff : ff (l.drop k) y = (t, m, true)) (h : k + m < l.length) (hy : l.getD (k + m) 0 ≠ y) : fd k (l.drop k) y acc = ([], 31, k + m) := by
  rw [fd_step, hff]
  simp only [List.drop_drop, drop_cons l (k + m) h]
  rw [if_neg (by decide), if_pos hy]
theorem fd_on (l : List UInt8) (k m : Nat) (y : UInt8) (acc : List (List UInt8)) (t : List UInt8) (hff : ff (l.drop k) y = (t, m, true)) (h : k + m < l.length) (hy : l.getD (k + m) 0 = y) : fd k (l.drop k) y acc = fd (k + m + 1) (l.drop (k + m + 1)) y (acc ++ [t]) := by
  rw [fd_step, hff]
  simp only [List.drop_drop, drop_cons l (k + m) h]
  rw [if_neg (by decide), if_neg (by simpa using hy)]
theorem tw_step (l t : List UInt8) (k j : Nat) (y : UInt8) (hj : j < l.length) (hy : l.getD j 0 ≠ y) (h : t ++ (l.drop j).takeWhile (· ≠ y) = (l.drop k).takeWhile (· ≠ y)) : (t ++ [l.getD j 0]) ++ (l.drop (j + 1)).takeWhile (· ≠ y) = (l.drop k).takeWhile (· ≠ y) := by
  rw [drop_cons l j hj, List.takeWhile_cons, if_pos (by simpa using hy)] at h
  rw [← h]; simp
theorem tw_stop (l t : List UInt8) (k j : Nat) (y : UInt8) (hj : ¬ (j < l.length ∧ l.getD j 0 ≠ y)) (h : t ++ (l.drop j).takeWhile (· ≠ y) = (l.drop k).takeWhile (· ≠ y)) : (l.drop k).takeWhile (· ≠ y) = t := by
  by_cases h1 : j < l.length
  · have h2 : l.getD j 0 = y := by
      by_cases e : l.getD j 0 = y
      · exact e
      · exact absurd ⟨h1, e⟩ hj
    rw [drop_cons l j h1, List.takeWhile_cons, if_neg (by simpa using h2), List.append_nil] at h
    exact h.symm
  · rw [List.drop_eq_nil_of_le (by omega), List.takeWhile_nil, List.append_nil] at h
    exact h.symm
set_option maxRecDepth 100000 in
set_option maxHeartbeats 8000000 in
theorem rFields_any (l : List UInt8) (y : UInt8) (w : World) (hs : l.length ≤ 4294967000) : Calls Tryd.prog 18 #[.string ⟨l.toArray⟩, .int .u8 (y.toNat : Nat)] w fun e w' => ∃ v, e = .returned (.tuple #[v, .int .i64 ((fdR l y).2.1 : Nat), .int .i64 ((fdR l y).2.2 : Nat)]) ∧ OwnS w.heap.size v (fdR l y).1 w' ∧ Keep w w' := by
  have hsz := sz_mk l
  have y1 : ((y.toNat : Int) == 34) = decide (y = 34) := by rw [← ub_eq y 34]; rfl
  have y2 : ((y.toNat : Int) == 10) = decide (y = 10) := by rw [← ub_eq y 10]; rfl
  have y3 : ((y.toNat : Int) == 13) = decide (y = 13) := by rw [← ub_eq y 13]; rfl
  cases hy : mcB y with
  | false =>
    have HR : Hid (fdR l y = ([], 2, 0)) := by unfold Hid fdR; rw [if_neg (by rw [hy]; decide)]
    have HB : Hid ((decide (y = 34) || decide (y = 10) || decide (y = 13)) = true) := by
      unfold mcB at hy; unfold Hid
      revert hy
      cases decide (y = 34) <;> cases decide (y = 13) <;> cases decide (y = 10) <;> simp
    generalize fdR l y = R at *
    clear hy
    generalize decide (y = 34) = b1 at *
    generalize decide (y = 10) = b2 at *
    generalize decide (y = 13) = b3 at *
    generalize y.toNat = n at *
    cases b1 <;> cases b2 <;> cases b3 <;> first
      | (exact absurd HB.out (by decide))
      | (go_enter Tryd.func18, Tryd.ntmps18
         go_wp2_with fail
         go_ret3
         exact ⟨_, by rw [HR.out]; rfl, by rw [HR.out]; exact own_nil _ _ _ _, Keep.refl _⟩)
      | (go_enter Tryd.func18, Tryd.ntmps18
         go_wp2_with fail
         done)
  | true =>
    have HR : Hid (fd 0 (l.drop 0) y [] = fdR l y) := by unfold Hid fdR; rw [if_pos hy]; rfl
    unfold mcB at hy
    have z1 : decide (y = 34) = false := by revert hy; cases decide (y = 34) <;> simp
    have z2 : decide (y = 10) = false := by revert hy; cases decide (y = 10) <;> simp
    have z3 : decide (y = 13) = false := by revert hy; cases decide (y = 13) <;> simp
    rw [z1] at y1
    rw [z2] at y2
    rw [z3] at y3
    clear hy z1 z2 z3
    generalize fdR l y = R at *
    have hne : ∀ c : UInt8, (((c.toNat : Int) != (y.toNat : Int)) = !(decide (c = y))) := fun c => by rw [bne, ub_eq]
    obtain ⟨n, hn⟩ : ∃ n, y.toNat = n := ⟨_, rfl⟩
    rw [hn] at hne y1 y2 y3 ⊢
    replace hn : Hid _ := hn
    replace hne : Hid _ := hne
    go_enter Tryd.func18, Tryd.ntmps18
    go_wp2_with fail
    go_loopw [7, 8] (fun vl at' wr => ∃ (k : Nat) (acc : List (List UInt8)), at' = .int .i64 k ∧ k ≤ l.length ∧ acc.length ≤ k ∧ Keep w wr ∧ OwnS w.heap.size vl acc wr ∧ Hid (fd k (l.drop k) y acc = R)) (fun _ at' _ => l.length + 1 - (intOf at').toNat)
    case atStart => exact ⟨0, [], rfl, by omega, by simp, Keep.refl w, own_nil _ _ _ _, HR⟩
    case round =>
      obtain ⟨k, acc, rfl, hk, hac, kw, hO, H⟩ := hrel
      clear HR y1 y2 y3
      replace kw : Hid _ := kw
      replace hO : Hid _ := hO
      replace hac : Hid _ := hac
      obtain ⟨w5, hw5⟩ : ∃ w5, w5 = wr := ⟨_, rfl⟩
      subst hw5
      have hlb : k ≤ 4294967000 := by omega
      by_cases hkl : k < l.length
      · have hxk := run_ix l k hkl
        have hkc : decide ((k : Int) < (l.length : Int)) = true := decide_eq_true (by omega)
        by_cases hd : l.getD k 0 = 34
        · have ek := ub_is _ 34 34 rfl hd
          replace hd : Hid (l.getD k 0 = 34) := hd
          generalize hnk : (l.getD k 0).toNat = nk at hxk ek
          clear hnk
          go_upto_if 29 with fail
          go_cut [8, 9] from 20 to 104 (fun s8 s9 wx => ∃ (e : Nat) (t : List UInt8), s8 = .int .i64 e ∧ k ≤ e ∧ e ≤ l.length ∧ OwnB w5.heap.size s9 t wx ∧ Keep w5 wx ∧ Hid (ff (l.drop k) y = (t, e - k, true)) ∧ Hid (e < l.length → l.getD e 0 = y))
          case first =>
            have hdq := hd.out
            clear hxk ek
            go_wp2_with fail
            go_loopw [8, 9] (fun jv bv wx => ∃ (j : Nat) (t : List UInt8), jv = .int .i64 j ∧ k + 1 ≤ j ∧ j ≤ l.length ∧ t.length ≤ j ∧ OwnB w5.heap.size bv t wx ∧ Keep w5 wx ∧ Hid (ud (l.drop (k + 1)) [] 1 = ud (l.drop j) t (j - k))) (fun jv _ _ => l.length - (intOf jv).toNat)
            case atStart => exact ⟨k + 1, [], by go_num, by omega, by omega, by simp, OwnB.nil _ _, Keep.refl _, by unfold Hid; rw [show k + 1 - k = 1 by omega]⟩
            case round =>
              obtain ⟨j, t, rfl, hkj, hjl, htl, hB, k9, HU⟩ := hrel
              have hjb : j ≤ 4294967000 := by omega
              replace hB : Hid _ := hB
              replace k9 : Hid _ := k9
              replace htl : Hid _ := htl
              replace hkj : Hid _ := hkj
              by_cases hlt : j < l.length
              · have hx := run_ix l j hlt
                have hgc : decide ((l.length : Int) ≤ (j : Int)) = false := decide_eq_false (by omega)
                have hgn : ¬ l.length ≤ j := by omega
                by_cases c34 : l.getD j 0 = 34
                · have e34 := ub_is _ 34 34 rfl c34
                  by_cases hl2 : j + 1 < l.length
                  · have hx2 : ∀ w, (Instr.index 9 (.string ⟨l.toArray⟩) (.int .i64 ((j : Int) + 1))).run Tryd.prog w = .ok (.int .u8 ((l.getD (j + 1) 0).toNat : Nat)) w := fun w => run_ix l (j + 1) hl2 w
                    have hg2 : decide ((l.length : Int) ≤ (j : Int) + 1) = false := decide_eq_false (by omega)
                    have hg2n : ¬ l.length ≤ j + 1 := by omega
                    by_cases d34 : l.getD (j + 1) 0 = 34
                    · have f34 : (((l.getD (j + 1) 0).toNat : Int) != 34) = false := by rw [bne, ub_is _ 34 34 rfl d34]; rfl
                      have HU2 : Hid (ud (l.drop (k + 1)) [] 1 = ud (l.drop (j + 2)) (t ++ [34]) (j + 2 - k)) := by
                        unfold Hid
                        rw [HU.out, ud_q2 l t j _ hl2 c34 d34, show j - k + 2 = j + 2 - k by have := hkj.out; omega]
                      have hd2 : l.getD (j + 1) 0 = 34 := d34
                      obtain ⟨w6, hw6, k6, t6, s6⟩ := boxed wr #[.int .u8 ((l.getD (j + 1) 0).toNat : Nat)] 5
                      have HB2 : Hid (l.getD (j + 1) 0 = 34) := d34
                      have HL : Hid (j + 1 < l.length) := hl2
                      clear c34 d34 hd2 HU
                      obtain ⟨c2, hc2⟩ : ∃ c2, l.getD (j + 1) 0 = c2 := ⟨_, rfl⟩
                      rw [hc2] at hx2 f34 hw6 t6 HB2
                      generalize (l.getD j 0).toNat = n1 at *
                      obtain ⟨n2, hn2⟩ : ∃ n2, c2.toNat = n2 := ⟨_, rfl⟩
                      rw [hn2] at hx2 f34 hw6 t6
                      replace hn2 : Hid _ := hn2
                      clear hc2
                      go_wp2_with (first
                        | rw [hw6]
                        | (at_builtin; refine wpList_appG Tryd.underlying58 i5 (by kernel_rfl) (by decide) (by decide) w5.heap.size _ rfl _ _ rfl t.length (Lib.byteCells t) [.int .u8 (n2 : Nat)] _ rfl (own_keep hB.out k6) (Keep.trans k9.out k6).le ⟨wr.heap.size, 0, none⟩ 1 rfl rfl (at1 t6) (by simp [Value.oneCell']) (by have := htl.out; omega) ?_; intro v7 w7 hO7 hg7
                           have kf : Hid (Keep w5 w7) := keep_grown (Keep.trans k9.out k6) (own_keep hB.out k6) hg7
                           clear hg7))
                      go_roundw
                      case rel => exact ⟨j + 2, t ++ [34], by go_num, by have := hkj.out; omega, by have := HL.out; omega, by rw [List.length_append, List.length_singleton]; have := htl.out; omega, OwnB.more (c := 34) (by rw [← HB2.out, hn2.out]; exact hO7), kf.out, HU2⟩
                      case measure => have := HL.out; simp [intOf]; omega
                    · have f34 : (((l.getD (j + 1) 0).toNat : Int) != 34) = true := by rw [bne, ub_no _ 34 34 rfl d34]; rfl
                      have hffx : ff (l.drop k) y = (t, j + 1 - k, true) := by
                        rw [drop_cons l k hkl, hdq, ff_quote, HU.out, ud_q1 l t j _ hlt c34 (fun h => d34 h.2), show j - k + 1 = j + 1 - k by have := hkj.out; omega]
                      have hny := hne.out (l.getD (j + 1) 0)
                      by_cases hby : l.getD (j + 1) 0 = y
                      · rw [decide_eq_true hby] at hny
                        replace hffx : Hid _ := hffx
                        replace hby : Hid _ := hby
                        clear c34 d34 HU
                        generalize (l.getD j 0).toNat = n1 at *
                        generalize (l.getD (j + 1) 0).toNat = n2 at *
                        go_wp2_with fail
                        go_meet
                        case rel => exact ⟨j + 1, t, by go_num, by have := hkj.out; omega, by omega, hB.out, k9.out, hffx, fun _ => hby.out⟩
                      · rw [decide_eq_false hby] at hny
                        have HX : Hid (([], 31, j + 1) = R) := by
                          have := fd_off l k (j + 1 - k) y acc t hffx (by have := hkj.out; omega) (by rw [show k + (j + 1 - k) = j + 1 by have := hkj.out; omega]; exact hby)
                          rw [H.out, show k + (j + 1 - k) = j + 1 by have := hkj.out; omega] at this
                          exact this.symm
                        clear c34 d34 HU hby hffx
                        generalize (l.getD j 0).toNat = n1 at *
                        generalize (l.getD (j + 1) 0).toNat = n2 at *
                        go_wp2_with fail
                        go_ret3
                        exact ⟨_, by rw [← HX.out]; rfl, by rw [← HX.out]; exact own_nil _ _ _ _, Keep.trans kw.out k9.out⟩
                  · have hg2 : decide ((l.length : Int) ≤ (j : Int) + 1) = true := decide_eq_true (by omega)
                    have hg2n : l.length ≤ j + 1 := by omega
                    have hg3 : decide ((j : Int) + 1 < (l.length : Int)) = false := decide_eq_false (by omega)
                    have hffx : Hid (ff (l.drop k) y = (t, j + 1 - k, true)) := by
                      unfold Hid
                      rw [drop_cons l k hkl, hdq, ff_quote, HU.out, ud_q1 l t j _ hlt c34 (fun h => hl2 h.1), show j - k + 1 = j + 1 - k by have := hkj.out; omega]
                    clear c34 HU
                    generalize (l.getD j 0).toNat = n1 at *
                    go_wp2_with fail
                    go_meet
                    case rel => exact ⟨j + 1, t, by go_num, by have := hkj.out; omega, by omega, hB.out, k9.out, hffx, fun h => by omega⟩
                · have e34 := ub_no _ 34 34 rfl c34
                  have HU2 : Hid (ud (l.drop (k + 1)) [] 1 = ud (l.drop (j + 1)) (t ++ [l.getD j 0]) (j + 1 - k)) := by
                    unfold Hid
                    rw [HU.out, ud_nq l t j _ hlt c34, show j - k + 1 = j + 1 - k by have := hkj.out; omega]
                  obtain ⟨c2, hc2⟩ : ∃ c2, l.getD j 0 = c2 := ⟨_, rfl⟩
                  rw [hc2] at hx e34 HU2
                  obtain ⟨w6, hw6, k6, t6, s6⟩ := boxed wr #[.int .u8 (c2.toNat : Nat)] 5
                  have HL : Hid (j < l.length) := hlt
                  obtain ⟨n2, hn2⟩ : ∃ n2, c2.toNat = n2 := ⟨_, rfl⟩
                  rw [hn2] at hx e34 hw6 t6
                  replace hn2 : Hid _ := hn2
                  clear c34 HU hc2
                  go_wp2_with (first
                    | rw [hw6]
                    | (at_builtin; refine wpList_appG Tryd.underlying58 i5 (by kernel_rfl) (by decide) (by decide) w5.heap.size _ rfl _ _ rfl t.length (Lib.byteCells t) [.int .u8 (n2 : Nat)] _ rfl (own_keep hB.out k6) (Keep.trans k9.out k6).le ⟨wr.heap.size, 0, none⟩ 1 rfl rfl (at1 t6) (by simp [Value.oneCell']) (by have := htl.out; omega) ?_; intro v7 w7 hO7 hg7
                       have kf : Hid (Keep w5 w7) := keep_grown (Keep.trans k9.out k6) (own_keep hB.out k6) hg7
                       clear hg7))
                  go_roundw
                  case rel => exact ⟨j + 1, t ++ [c2], by go_num, by have := hkj.out; omega, by have := HL.out; omega, by rw [List.length_append, List.length_singleton]; have := htl.out; omega, OwnB.more (by rw [hn2.out]; exact hO7), kf.out, HU2⟩
                  case measure => have := HL.out; simp [intOf]; omega
              · obtain rfl : j = l.length := by omega
                have HX : Hid (([], 31, l.length) = R) := by
                  have hffx : ff (l.drop k) y = ([], l.length - k, false) := by
                    rw [drop_cons l k hkl, hdq, ff_quote, HU.out, List.drop_length, ud_nil]
                  have := fd_bad l k (l.length - k) y acc [] hffx
                  rw [H.out, show k + (l.length - k) = l.length by omega] at this
                  exact this.symm
                clear HU
                go_wp2_with fail
                go_ret3
                exact ⟨_, by rw [← HX.out]; rfl, by rw [← HX.out]; exact own_nil _ _ _ _, Keep.trans kw.out k9.out⟩
          case rest =>
            obtain ⟨e, t, rfl, hke, hel, hB, k9, hff, hey⟩ := hcut
            have hcv := hB.conv
            obtain ⟨w6, hw6, k6, t6, s6⟩ := boxed wc #[.string ⟨t.toArray⟩] 9
            have kx : Hid (Keep w5 w6) := Keep.trans k9 k6
            replace hB : Hid _ := hB
            replace k9 : Hid _ := k9
            replace k6 : Hid _ := k6
            have heb : e ≤ 4294967000 := by omega
            by_cases hend : e < l.length
            · have hec : decide ((l.length : Int) ≤ (e : Int)) = false := decide_eq_false (by omega)
              have hen : ¬ l.length ≤ e := by omega
              have HX : Hid (fd (e + 1) (l.drop (e + 1)) y (acc ++ [t]) = R) := by
                have := fd_on l k (e - k) y acc t hff.out (by omega) (by rw [show k + (e - k) = e by omega]; exact hey.out hend)
                rw [show k + (e - k) + 1 = e + 1 by omega, H.out] at this
                exact this.symm
              have HE : Hid (e < l.length ∧ k ≤ e) := ⟨hend, hke⟩
              clear hke
              go_wp2_with (first
                | rw [hw6]
                | (at_builtin; refine wpList_appG Tryd.underlying32 i9 (by kernel_rfl) (by decide) (by decide) w.heap.size _ rfl _ _ rfl acc.length (SvL acc) [.string ⟨t.toArray⟩] _ rfl (own_keep hO.out kx.out) (Keep.trans kw.out kx.out).le ⟨wc.heap.size, 0, none⟩ 1 rfl rfl (at1 t6) (by simp [Value.oneCell']) (by have := hac.out; omega) ?_; intro v7 w7 hO7 hg7
                   have kf : Hid (Keep w w7) := keep_grown (Keep.trans kw.out kx.out) (own_keep hO.out kx.out) hg7
                   have hOf : Hid (OwnS w.heap.size v7 (acc ++ [t]) w7) := by
                     show World.ownsRow _ _ _ _ _ _ _
                     rw [SvL_app, List.length_append, List.length_singleton]; exact hO7
                   clear hO7 hg7))
              go_roundw
              case rel => exact ⟨e + 1, acc ++ [t], by go_num, by have := HE.out; omega, by rw [List.length_append, List.length_singleton]; have := hac.out; have := HE.out; omega, kf.out, hOf.out, HX⟩
              case measure => have := HE.out; simp [intOf]; omega
            · obtain rfl : e = l.length := by omega
              have HX : Hid ((acc ++ [t], 0, 0) = R) := by
                have := fd_end l k (l.length - k) y acc t hff.out (by omega)
                rw [H.out] at this
                exact this.symm
              clear hke hend
              go_wp2_with (first
                | rw [hw6]
                | (at_builtin; refine wpList_appG Tryd.underlying32 i9 (by kernel_rfl) (by decide) (by decide) w.heap.size _ rfl _ _ rfl acc.length (SvL acc) [.string ⟨t.toArray⟩] _ rfl (own_keep hO.out kx.out) (Keep.trans kw.out kx.out).le ⟨wc.heap.size, 0, none⟩ 1 rfl rfl (at1 t6) (by simp [Value.oneCell']) (by have := hac.out; omega) ?_; intro v7 w7 hO7 hg7
                   have kf : Hid (Keep w w7) := keep_grown (Keep.trans kw.out kx.out) (own_keep hO.out kx.out) hg7
                   have hOf : Hid (OwnS w.heap.size v7 (acc ++ [t]) w7) := by
                     show World.ownsRow _ _ _ _ _ _ _
                     rw [SvL_app, List.length_append, List.length_singleton]; exact hO7
                   clear hO7 hg7))
              go_ret3
              exact ⟨_, by rw [← HX.out]; rfl, by rw [← HX.out]; exact hOf.out, kf.out⟩
        · have ek := ub_no _ 34 34 rfl hd
          have hpl : (l.drop k).head? ≠ some 34 := by rw [drop_cons l k hkl]; simpa using hd
          generalize hnk : (l.getD k 0).toNat = nk at hxk ek
          clear hnk hd
          go_upto_if 29 with fail
          go_cut [8, 9] from 20 to 104 (fun s8 s9 wx => ∃ (e : Nat) (t : List UInt8), s8 = .int .i64 e ∧ k ≤ e ∧ e ≤ l.length ∧ OwnB w5.heap.size s9 t wx ∧ Keep w5 wx ∧ Hid (ff (l.drop k) y = (t, e - k, true)) ∧ Hid (e < l.length → l.getD e 0 = y))
          case first =>
            go_wp2_with fail
            go_loopw [8, 9] (fun jv bv wx => ∃ (j : Nat) (t : List UInt8), jv = .int .i64 j ∧ k ≤ j ∧ j ≤ l.length ∧ t.length = j - k ∧ OwnB w5.heap.size bv t wx ∧ Keep w5 wx ∧ Hid (t ++ (l.drop j).takeWhile (· ≠ y) = (l.drop k).takeWhile (· ≠ y))) (fun jv _ _ => l.length - (intOf jv).toNat)
            case atStart => exact ⟨k, [], rfl, by omega, by omega, by simp, OwnB.nil _ _, Keep.refl _, rfl⟩
            case round =>
              obtain ⟨j, t, rfl, hkj, hjl, htl, hB, k9, HU⟩ := hrel
              have hjb : j ≤ 4294967000 := by omega
              replace hB : Hid _ := hB
              replace k9 : Hid _ := k9
              replace htl : Hid _ := htl
              replace hkj : Hid _ := hkj
              by_cases hlt : j < l.length
              · have hx := run_ix l j hlt
                have hgc : decide ((j : Int) < (l.length : Int)) = true := decide_eq_true (by omega)
                have hny := hne.out (l.getD j 0)
                by_cases hby : l.getD j 0 = y
                · rw [decide_eq_true hby] at hny
                  have hffx : Hid (ff (l.drop k) y = (t, j - k, true)) := by
                    unfold Hid
                    rw [ff_plain _ _ hpl, tw_stop l t k j y (fun h => h.2 hby) HU.out, htl.out]
                  replace hby : Hid _ := hby
                  clear HU
                  generalize (l.getD j 0).toNat = n1 at *
                  go_wp2_with fail
                  go_meet
                  case rel => exact ⟨j, t, rfl, hkj.out, by omega, hB.out, k9.out, hffx, fun _ => hby.out⟩
                · rw [decide_eq_false hby] at hny
                  have HU2 : Hid ((t ++ [l.getD j 0]) ++ (l.drop (j + 1)).takeWhile (· ≠ y) = (l.drop k).takeWhile (· ≠ y)) := tw_step l t k j y hlt hby HU.out
                  obtain ⟨c2, hc2⟩ : ∃ c2, l.getD j 0 = c2 := ⟨_, rfl⟩
                  rw [hc2] at hx hny HU2
                  obtain ⟨w6, hw6, k6, t6, s6⟩ := boxed wr #[.int .u8 (c2.toNat : Nat)] 5
                  have HL : Hid (j < l.length) := hlt
                  obtain ⟨n2, hn2⟩ : ∃ n2, c2.toNat = n2 := ⟨_, rfl⟩
                  rw [hn2] at hx hny hw6 t6
                  replace hn2 : Hid _ := hn2
                  clear HU hc2 hby
                  go_wp2_with (first
                    | rw [hw6]
                    | (at_builtin; refine wpList_appG Tryd.underlying58 i5 (by kernel_rfl) (by decide) (by decide) w5.heap.size _ rfl _ _ rfl t.length (Lib.byteCells t) [.int .u8 (n2 : Nat)] _ rfl (own_keep hB.out k6) (Keep.trans k9.out k6).le ⟨wr.heap.size, 0, none⟩ 1 rfl rfl (at1 t6) (by simp [Value.oneCell']) (by have := htl.out; omega) ?_; intro v7 w7 hO7 hg7
                       have kf : Hid (Keep w5 w7) := keep_grown (Keep.trans k9.out k6) (own_keep hB.out k6) hg7
                       clear hg7))
                  go_roundw
                  case rel => exact ⟨j + 1, t ++ [c2], by go_num, by have := hkj.out; omega, by have := HL.out; omega, by rw [List.length_append, List.length_singleton]; have := htl.out; have := hkj.out; omega, OwnB.more (by rw [hn2.out]; exact hO7), kf.out, HU2⟩
                  case measure => have := HL.out; simp [intOf]; omega
              · obtain rfl : j = l.length := by omega
                have hgc : ¬ (l.length : Int) < (l.length : Int) := by omega
                have hffx : Hid (ff (l.drop k) y = (t, l.length - k, true)) := by
                  unfold Hid
                  rw [ff_plain _ _ hpl, tw_stop l t k l.length y (fun h => by omega) HU.out, htl.out]
                clear HU
                go_wp2_with fail
                go_meet
                case rel => exact ⟨l.length, t, rfl, hkj.out, by omega, hB.out, k9.out, hffx, fun h => by omega⟩
          case rest =>
            obtain ⟨e, t, rfl, hke, hel, hB, k9, hff, hey⟩ := hcut
            have hcv := hB.conv
            obtain ⟨w6, hw6, k6, t6, s6⟩ := boxed wc #[.string ⟨t.toArray⟩] 9
            have kx : Hid (Keep w5 w6) := Keep.trans k9 k6
            replace hB : Hid _ := hB
            replace k9 : Hid _ := k9
            replace k6 : Hid _ := k6
            have heb : e ≤ 4294967000 := by omega
            by_cases hend : e < l.length
            · have hec : decide ((l.length : Int) ≤ (e : Int)) = false := decide_eq_false (by omega)
              have hen : ¬ l.length ≤ e := by omega
              have HX : Hid (fd (e + 1) (l.drop (e + 1)) y (acc ++ [t]) = R) := by
                have := fd_on l k (e - k) y acc t hff.out (by omega) (by rw [show k + (e - k) = e by omega]; exact hey.out hend)
                rw [show k + (e - k) + 1 = e + 1 by omega, H.out] at this
                exact this.symm
              have HE : Hid (e < l.length ∧ k ≤ e) := ⟨hend, hke⟩
              clear hke
              go_wp2_with (first
                | rw [hw6]
                | (at_builtin; refine wpList_appG Tryd.underlying32 i9 (by kernel_rfl) (by decide) (by decide) w.heap.size _ rfl _ _ rfl acc.length (SvL acc) [.string ⟨t.toArray⟩] _ rfl (own_keep hO.out kx.out) (Keep.trans kw.out kx.out).le ⟨wc.heap.size, 0, none⟩ 1 rfl rfl (at1 t6) (by simp [Value.oneCell']) (by have := hac.out; omega) ?_; intro v7 w7 hO7 hg7
                   have kf : Hid (Keep w w7) := keep_grown (Keep.trans kw.out kx.out) (own_keep hO.out kx.out) hg7
                   have hOf : Hid (OwnS w.heap.size v7 (acc ++ [t]) w7) := by
                     show World.ownsRow _ _ _ _ _ _ _
                     rw [SvL_app, List.length_append, List.length_singleton]; exact hO7
                   clear hO7 hg7))
              go_roundw
              case rel => exact ⟨e + 1, acc ++ [t], by go_num, by have := HE.out; omega, by rw [List.length_append, List.length_singleton]; have := hac.out; have := HE.out; omega, kf.out, hOf.out, HX⟩
              case measure => have := HE.out; simp [intOf]; omega
            · obtain rfl : e = l.length := by omega
              have HX : Hid ((acc ++ [t], 0, 0) = R) := by
                have := fd_end l k (l.length - k) y acc t hff.out (by omega)
                rw [H.out] at this
                exact this.symm
              clear hke hend
              go_wp2_with (first
                | rw [hw6]
                | (at_builtin; refine wpList_appG Tryd.underlying32 i9 (by kernel_rfl) (by decide) (by decide) w.heap.size _ rfl _ _ rfl acc.length (SvL acc) [.string ⟨t.toArray⟩] _ rfl (own_keep hO.out kx.out) (Keep.trans kw.out kx.out).le ⟨wc.heap.size, 0, none⟩ 1 rfl rfl (at1 t6) (by simp [Value.oneCell']) (by have := hac.out; omega) ?_; intro v7 w7 hO7 hg7
                   have kf : Hid (Keep w w7) := keep_grown (Keep.trans kw.out kx.out) (own_keep hO.out kx.out) hg7
                   have hOf : Hid (OwnS w.heap.size v7 (acc ++ [t]) w7) := by
                     show World.ownsRow _ _ _ _ _ _ _
                     rw [SvL_app, List.length_append, List.length_singleton]; exact hO7
                   clear hO7 hg7))
              go_ret3
              exact ⟨_, by rw [← HX.out]; rfl, by rw [← HX.out]; exact hOf.out, kf.out⟩
      · have hke0 : k = l.length := by omega
        have hkc : decide ((k : Int) < (l.length : Int)) = false := decide_eq_false (by omega)
        have hpl : (l.drop k).head? ≠ some 34 := by rw [List.drop_eq_nil_of_le (by omega)]; simp
        replace hke0 : Hid _ := hke0
        go_upto_if 29 with fail
        go_cut [8, 9] from 20 to 104 (fun s8 s9 wx => ∃ (e : Nat) (t : List UInt8), s8 = .int .i64 e ∧ k ≤ e ∧ e ≤ l.length ∧ OwnB w5.heap.size s9 t wx ∧ Keep w5 wx ∧ Hid (ff (l.drop k) y = (t, e - k, true)) ∧ Hid (e < l.length → l.getD e 0 = y))
        case first =>
          go_wp2_with fail
          go_loopw [8, 9] (fun jv bv wx => ∃ (j : Nat) (t : List UInt8), jv = .int .i64 j ∧ k ≤ j ∧ j ≤ l.length ∧ t.length = j - k ∧ OwnB w5.heap.size bv t wx ∧ Keep w5 wx ∧ Hid (t ++ (l.drop j).takeWhile (· ≠ y) = (l.drop k).takeWhile (· ≠ y))) (fun jv _ _ => l.length - (intOf jv).toNat)
          case atStart => exact ⟨k, [], rfl, by omega, by omega, by simp, OwnB.nil _ _, Keep.refl _, rfl⟩
          case round =>
            obtain ⟨j, t, rfl, hkj, hjl, htl, hB, k9, HU⟩ := hrel
            have hjb : j ≤ 4294967000 := by omega
            replace hB : Hid _ := hB
            replace k9 : Hid _ := k9
            replace htl : Hid _ := htl
            replace hkj : Hid _ := hkj
            by_cases hlt : j < l.length
            · have hx := run_ix l j hlt
              have hgc : decide ((j : Int) < (l.length : Int)) = true := decide_eq_true (by omega)
              have hny := hne.out (l.getD j 0)
              by_cases hby : l.getD j 0 = y
              · rw [decide_eq_true hby] at hny
                have hffx : Hid (ff (l.drop k) y = (t, j - k, true)) := by
                  unfold Hid
                  rw [ff_plain _ _ hpl, tw_stop l t k j y (fun h => h.2 hby) HU.out, htl.out]
                replace hby : Hid _ := hby
                clear HU
                generalize (l.getD j 0).toNat = n1 at *
                go_wp2_with fail
                go_meet
                case rel => exact ⟨j, t, rfl, hkj.out, by omega, hB.out, k9.out, hffx, fun _ => hby.out⟩
              · rw [decide_eq_false hby] at hny
                have HU2 : Hid ((t ++ [l.getD j 0]) ++ (l.drop (j + 1)).takeWhile (· ≠ y) = (l.drop k).takeWhile (· ≠ y)) := tw_step l t k j y hlt hby HU.out
                obtain ⟨c2, hc2⟩ : ∃ c2, l.getD j 0 = c2 := ⟨_, rfl⟩
                rw [hc2] at hx hny HU2
                obtain ⟨w6, hw6, k6, t6, s6⟩ := boxed wr #[.int .u8 (c2.toNat : Nat)] 5
                have HL : Hid (j < l.length) := hlt
                obtain ⟨n2, hn2⟩ : ∃ n2, c2.toNat = n2 := ⟨_, rfl⟩
                rw [hn2] at hx hny hw6 t6
                replace hn2 : Hid _ := hn2
                clear HU hc2 hby
                go_wp2_with (first
                  | rw [hw6]
                  | (at_builtin; refine wpList_appG Tryd.underlying58 i5 (by kernel_rfl) (by decide) (by decide) w5.heap.size _ rfl _ _ rfl t.length (Lib.byteCells t) [.int .u8 (n2 : Nat)] _ rfl (own_keep hB.out k6) (Keep.trans k9.out k6).le ⟨wr.heap.size, 0, none⟩ 1 rfl rfl (at1 t6) (by simp [Value.oneCell']) (by have := htl.out; omega) ?_; intro v7 w7 hO7 hg7
                     have kf : Hid (Keep w5 w7) := keep_grown (Keep.trans k9.out k6) (own_keep hB.out k6) hg7
                     clear hg7))
                go_roundw
                case rel => exact ⟨j + 1, t ++ [c2], by go_num, by have := hkj.out; omega, by have := HL.out; omega, by rw [List.length_append, List.length_singleton]; have := htl.out; have := hkj.out; omega, OwnB.more (by rw [hn2.out]; exact hO7), kf.out, HU2⟩
                case measure => have := HL.out; simp [intOf]; omega
            · obtain rfl : j = l.length := by omega
              have hgc : ¬ (l.length : Int) < (l.length : Int) := by omega
              have hffx : Hid (ff (l.drop k) y = (t, l.length - k, true)) := by
                unfold Hid
                rw [ff_plain _ _ hpl, tw_stop l t k l.length y (fun h => by omega) HU.out, htl.out]
              clear HU
              go_wp2_with fail
              go_meet
              case rel => exact ⟨l.length, t, rfl, hkj.out, by omega, hB.out, k9.out, hffx, fun h => by omega⟩
        case rest =>
          obtain ⟨e, t, rfl, hke, hel, hB, k9, hff, hey⟩ := hcut
          have hcv := hB.conv
          obtain ⟨w6, hw6, k6, t6, s6⟩ := boxed wc #[.string ⟨t.toArray⟩] 9
          have kx : Hid (Keep w5 w6) := Keep.trans k9 k6
          replace hB : Hid _ := hB
          replace k9 : Hid _ := k9
          replace k6 : Hid _ := k6
          have heb : e ≤ 4294967000 := by omega
          by_cases hend : e < l.length
          · have hec : decide ((l.length : Int) ≤ (e : Int)) = false := decide_eq_false (by omega)
            have hen : ¬ l.length ≤ e := by omega
            have HX : Hid (fd (e + 1) (l.drop (e + 1)) y (acc ++ [t]) = R) := by
              have := fd_on l k (e - k) y acc t hff.out (by omega) (by rw [show k + (e - k) = e by omega]; exact hey.out hend)
              rw [show k + (e - k) + 1 = e + 1 by omega, H.out] at this
              exact this.symm
            have HE : Hid (e < l.length ∧ k ≤ e) := ⟨hend, hke⟩
            clear hke
            go_wp2_with (first
              | rw [hw6]
              | (at_builtin; refine wpList_appG Tryd.underlying32 i9 (by kernel_rfl) (by decide) (by decide) w.heap.size _ rfl _ _ rfl acc.length (SvL acc) [.string ⟨t.toArray⟩] _ rfl (own_keep hO.out kx.out) (Keep.trans kw.out kx.out).le ⟨wc.heap.size, 0, none⟩ 1 rfl rfl (at1 t6) (by simp [Value.oneCell']) (by have := hac.out; omega) ?_; intro v7 w7 hO7 hg7
                 have kf : Hid (Keep w w7) := keep_grown (Keep.trans kw.out kx.out) (own_keep hO.out kx.out) hg7
                 have hOf : Hid (OwnS w.heap.size v7 (acc ++ [t]) w7) := by
                   show World.ownsRow _ _ _ _ _ _ _
                   rw [SvL_app, List.length_append, List.length_singleton]; exact hO7
                 clear hO7 hg7))
            go_roundw
            case rel => exact ⟨e + 1, acc ++ [t], by go_num, by have := HE.out; omega, by rw [List.length_append, List.length_singleton]; have := hac.out; have := HE.out; omega, kf.out, hOf.out, HX⟩
            case measure => have := HE.out; simp [intOf]; omega
          · obtain rfl : e = l.length := by omega
            have HX : Hid ((acc ++ [t], 0, 0) = R) := by
              have := fd_end l k (l.length - k) y acc t hff.out (by omega)
              rw [H.out] at this
              exact this.symm
            clear hke hend
            go_wp2_with (first
              | rw [hw6]
              | (at_builtin; refine wpList_appG Tryd.underlying32 i9 (by kernel_rfl) (by decide) (by decide) w.heap.size _ rfl _ _ rfl acc.length (SvL acc) [.string ⟨t.toArray⟩] _ rfl (own_keep hO.out kx.out) (Keep.trans kw.out kx.out).le ⟨wc.heap.size, 0, none⟩ 1 rfl rfl (at1 t6) (by simp [Value.oneCell']) (by have := hac.out; omega) ?_; intro v7 w7 hO7 hg7
                 have kf : Hid (Keep w w7) := keep_grown (Keep.trans kw.out kx.out) (own_keep hO.out kx.out) hg7
                 have hOf : Hid (OwnS w.heap.size v7 (acc ++ [t]) w7) := by
                   show World.ownsRow _ _ _ _ _ _ _
                   rw [SvL_app, List.length_append, List.length_singleton]; exact hO7
                 clear hO7 hg7))
            go_ret3
            exact ⟨_, by rw [← HX.out]; rfl, by rw [← HX.out]; exact hOf.out, kf.out⟩
end Go.Proofs.YtonfjmibnnioiaaDoor
