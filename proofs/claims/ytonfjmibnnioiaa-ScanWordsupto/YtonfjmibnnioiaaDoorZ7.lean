import Derived.Test.YtonfjmibnnioiaaDoorZ6
import Derived.Deep.CutBlock
import Derived.Deep.CutRange
set_option linter.unusedVariables false
set_option linter.unusedSimpArgs false
namespace Go.Proofs.YtonfjmibnnioiaaDoor
open Go.RowKit Go.Shelf
set_option maxRecDepth 100000 in
set_option maxHeartbeats 8000000 in
theorem rWords_any (l : List UInt8) (w : World) (hs : l.length ≤ 4294967000) : Calls Tryd.prog 15 #[.string ⟨l.toArray⟩] w fun e w' => ∃ v, e = .returned (.tuple #[v, .int .i64 ((ws 0 l []).2.1 : Nat), .int .i64 ((ws 0 l []).2.2 : Nat)]) ∧ OwnW w.heap.size v (ws 0 l []).1 w' ∧ Keep w w' := by
  obtain ⟨R, hR⟩ : ∃ R, ws 0 l [] = R := ⟨_, rfl⟩
  rw [hR]
  have hsz := sz_mk l
  have HR : Hid (ws 0 (l.drop 0) [] = R) := by unfold Hid; rw [List.drop_zero]; exact hR
  clear hR
  go_enter Tryd.func15, Tryd.ntmps15
  go_wp2_with fail
  go_loopw [5, 6] (fun vl at' wr => ∃ (k : Nat) (acc : List Wd), at' = .int .i64 k ∧ k ≤ l.length ∧ acc.length ≤ k ∧ Keep w wr ∧ OwnW w.heap.size vl acc wr ∧ Hid (ws k (l.drop k) acc = R)) (fun _ at' _ => l.length - (intOf at').toNat)
  case atStart => exact ⟨0, [], rfl, by omega, by simp, Keep.refl w, own_nil _ _ _ _, HR⟩
  case round =>
    obtain ⟨k, acc, rfl, hk, hac, kw, hO, H⟩ := hrel
    clear HR
    have hkb : k ≤ 4294967000 := by omega
    replace kw : Hid (Keep w wr) := kw
    replace hO : Hid _ := hO
    replace hac : Hid _ := hac
    by_cases hlt : k < l.length
    · have hx := run_ix l k hlt
      have hltc : decide ((k : Int) < (l.length : Int)) = true := decide_eq_true (by omega)
      have hd := drop_cons l k hlt
      have hC := H.out
      rw [hd, ws_cons] at hC
      have HK : Hid (k < l.length) := hlt
      obtain ⟨q2, q3, q8, q6, q7, q9, q1, qn, qu⟩ := tests_of (l.getD k 0)
      have hBl := fun wx => rblank_any (l.getD k 0) wx
      have e35 : (((l.getD k 0).toNat : Int) != 35) = !(decide (l.getD k 0 = 35)) := by rw [bne, ← ub_eq _ 35]; rfl
      obtain ⟨c, hc⟩ : ∃ c, l.getD k 0 = c := ⟨_, rfl⟩
      rw [hc] at hx hd hC q2 q3 q8 q6 q7 q9 q1 qn qu hBl e35
      by_cases c1 : kd c = 1
      · rw [if_pos c1] at hC
        rw [decide_eq_true c1] at q1
        have c35 : decide (c = 35) = false := by rw [q9]; exact decide_eq_false (by omega)
        rw [c35] at e35
        rw [q1] at hBl
        replace hC : Hid _ := hC
        clear c1 H hd hc q2 q3 q8 q6 q7 q9 q1 qn qu c35
        generalize c.toNat = n at *
        go_wp2_with (go_at_call 34; refine (hBl _).mono ?_; rintro e w0 ⟨rfl, hw0⟩; rw [hw0]; clear hw0)
        go_roundw
        case rel => exact ⟨k + 1, acc, by go_num, by have := HK.out; omega, by have := hac.out; omega, kw.out, hO.out, hC.out⟩
        case measure => have := HK.out; simp [intOf]; omega
      · rw [if_neg c1] at hC
        by_cases c9 : kd c = 9
        · rw [if_pos c9] at hC
          rw [decide_eq_true c9] at q9
          rw [q9] at e35
          replace hC : Hid _ := hC
          clear c1 c9 H hd hc q2 q3 q8 q6 q7 q9 q1 qn qu
          generalize c.toNat = n at *
          go_wp2_with fail
          go_ret3
          exact ⟨_, by rw [← hC.out]; rfl, by rw [← hC.out]; exact hO.out, kw.out⟩
        · rw [if_neg c9] at hC
          rw [decide_eq_false c9] at q9
          rw [q9] at e35
          rw [decide_eq_false c1] at q1
          rw [q1] at hBl
          replace hC : Hid _ := hC
          clear H
          obtain ⟨w1, hw1, k1, t1, s1⟩ := boxed wr #[.int .u8 0, .string ⟨#[]⟩, .int .i64 (k : Nat)] 44
          obtain ⟨u0c, u1c, u2c, x0c, x1c, x2c⟩ := cells3 t1
          have hz : wr.heap.size < w1.heap.size := by omega
          go_upto_block 2 with (first | rw [hw1] | (go_at_call 34; refine (hBl _).mono ?_; rintro e w0 ⟨rfl, hw0⟩; rw [hw0]; clear hw0))
          go_cut [9] from 13 to 201 (fun s9 wx => ∃ (j kk : Nat) (tx : List UInt8), s9 = .int .i64 j ∧ k + 1 ≤ j ∧ j ≤ l.length ∧ wx.heap[wr.heap.size]? = some (.cells #[.int .u8 (kk : Nat), .string ⟨tx.toArray⟩, .int .i64 (k : Nat)] 44 (0, 0)) ∧ Keep wr wx ∧ Hid (fw (l.drop k) = .ok kk (if kk = 3 then tx else (l.drop k).take (j - k)) (j - k)) ∧ Hid (kk < 256))
          case first =>
            rename_i Qa Ka ha Qb Kb hb J K' hj hk'
            have hret : ∀ (a : Act) (w' : World), bodyPost Tryd.prog Tryd.f15 (fun e w' => ∃ v, e = .returned (.tuple #[v, .int .i64 (R.2.1 : Nat), .int .i64 (R.2.2 : Nat)]) ∧ OwnW w.heap.size v R.1 w' ∧ Keep w w') Exit.ret a w' → Qb Exit.ret a w' := fun _ _ h => h
            clear hb ha
            clear_value Qb
            clear Kb Ka Qa
            have hs' := hs
            by_cases n2 : kd c = 2
            · clear q8 q6 q7 q9 q1 qn qu q3
              as_aux_lemma =>
                rw [decide_eq_true n2] at q2
                have hr0 := (rn_step inNm (l.drop k) 0 (by rw [List.length_drop]; omega) (by simp)).1 (by rw [getD_drop, Nat.add_zero, hc, n2]; rfl)
                obtain ⟨w2, hw2, t2, k2⟩ : ∃ w2, w1.setCell ⟨wr.heap.size, 0, none⟩ (.int .u8 1) = w2 ∧ w2.heap[wr.heap.size]? = some (.cells #[.int .u8 1, .string ⟨#[]⟩, .int .i64 (k : Nat)] 44 (0, 0)) ∧ Keep wr w2 := by
                  refine ⟨_, rfl, ?_, k1.setCell (Nat.le_refl _) _⟩
                  have a0 := heap_setCell_same w1 wr.heap.size 0 _ 44 (.int .u8 1) t1
                  simpa using a0
                have HF : Hid (∀ j, j - k = rnF inNm (l.drop k) → fw (l.drop k) = .ok 1 ((l.drop k).take (j - k)) (j - k)) := by
                  intro j hj
                  rw [hj, tk_run, hd]
                  unfold fw; simp only []
                  rw [if_pos n2]; rfl
                obtain ⟨b1, hb1⟩ : ∃ b, leB c = b := ⟨_, rfl⟩
                obtain ⟨b2, hb2⟩ : ∃ b, decide (c = 95) = b := ⟨_, rfl⟩
                have f95 : ((c.toNat : Int) == 95) = b2 := by rw [← hb2, ← ub_eq c 95]; rfl
                rw [hb1, hb2] at q2
                replace q2 : Hid _ := q2
                have hLc := fun wx => rletter_any c wx
                rw [hb1] at hLc
                clear hb1 hb2 hd hc n2 c1 c9
                generalize c.toNat = n at *
                go_upto_region 10 with fail
                go_cut [35] from 13 to 201 (fun sc wx => sc = .bool true ∧ wx = w1)
                case first =>
                  cases b1 <;> cases b2 <;> first
                    | (exact absurd q2.out (by decide))
                    | (go_wp2_with (go_at_call 35; refine (hLc _).mono ?_; rintro e w0 ⟨rfl, hw0⟩; rw [hw0]; clear hw0)
                       go_meet
                       case rel => exact ⟨rfl, rfl⟩)
                case rest =>
                  obtain ⟨rfl, rfl⟩ := hcut
                  clear q2 f95 hLc
                  go_wp2_with (rw [hw2])
                  go_loop [9] (fun jv => ∃ j : Nat, jv = .int .i64 j ∧ k + 1 ≤ j ∧ j ≤ l.length ∧ Hid ((j - k) + rnF inNm ((l.drop k).drop (j - k)) = rnF inNm (l.drop k))) (fun jv => l.length - (intOf jv).toNat)
                  case atStart => exact ⟨k + 1, by go_num, by omega, by have := HK.out; omega, by unfold Hid; rw [show k + 1 - k = 0 + 1 by omega]; exact hr0⟩
                  case round =>
                    obtain ⟨j, rfl, hkj, hjl, HJ⟩ := hrel
                    have hjb : j ≤ 4294967000 := by omega
                    by_cases hjlt : j < l.length
                    · have hjc : decide ((j : Int) < (l.length : Int)) = true := decide_eq_true (by omega)
                      have hxj := run_ix l j hjlt
                      have hS := rn_step inNm (l.drop k) (j - k) (by rw [List.length_drop]; omega) HJ.out
                      rw [getD_drop, show k + (j - k) = j by omega] at hS
                      obtain ⟨x, hx0⟩ : ∃ x, l.getD j 0 = x := ⟨_, rfl⟩
                      rw [hx0] at hxj hS
                      obtain ⟨_, _, _, _, _, _, _, qnx, qux⟩ := tests_of x
                      have hLe := fun wx => rletter_any x wx
                      have hDi := fun wx => rdigit_any x wx
                      obtain ⟨b1, hb1⟩ : ∃ b, leB x = b := ⟨_, rfl⟩
                      obtain ⟨b2, hb2⟩ : ∃ b, diB x = b := ⟨_, rfl⟩
                      obtain ⟨b3, hb3⟩ : ∃ b, decide (x = 95) = b := ⟨_, rfl⟩
                      obtain ⟨b4, hb4⟩ : ∃ b, decide (x = 45) = b := ⟨_, rfl⟩
                      obtain ⟨b5, hb5⟩ : ∃ b, decide (x = 46) = b := ⟨_, rfl⟩
                      have f95 : ((x.toNat : Int) == 95) = b3 := by rw [← hb3, ← ub_eq x 95]; rfl
                      have f45 : ((x.toNat : Int) == 45) = b4 := by rw [← hb4, ← ub_eq x 45]; rfl
                      have f46 : ((x.toNat : Int) == 46) = b5 := by rw [← hb5, ← ub_eq x 46]; rfl
                      rw [hb1, hb2, hb3, hb4, hb5] at qnx
                      rw [hb1] at hLe
                      rw [hb2] at hDi
                      have HP : Hid (inNm (kd x) = (b1 || b2 || b3 || b4 || b5)) := qnx
                      clear qnx qux hb1 hb2 hb3 hb4 hb5 hx0
                      obtain ⟨pb, hpb⟩ : ∃ pb, inNm (kd x) = pb := ⟨_, rfl⟩
                      rw [hpb] at HP hS
                      clear hpb
                      generalize x.toNat = nx at *
                      replace hS : Hid _ := hS
                      go_upto_region 12 with fail
                      go_cut [76] from 43 to 78 (fun sc wx => sc = .bool pb ∧ wx = w2)
                      case first =>
                        cases b1 with
                        | true =>
                          go_wp2_with (first | (go_at_call 35; refine (hLe _).mono ?_; rintro e w0 ⟨rfl, hw0⟩; rw [hw0]; clear hw0) | (go_at_call 36; refine (hDi _).mono ?_; rintro e w0 ⟨rfl, hw0⟩; rw [hw0]; clear hw0))
                          go_meet
                          case rel => exact ⟨by rw [HP.out]; rfl, rfl⟩
                        | false =>
                          cases b2 with
                          | true =>
                            go_wp2_with (first | (go_at_call 35; refine (hLe _).mono ?_; rintro e w0 ⟨rfl, hw0⟩; rw [hw0]; clear hw0) | (go_at_call 36; refine (hDi _).mono ?_; rintro e w0 ⟨rfl, hw0⟩; rw [hw0]; clear hw0))
                            go_meet
                            case rel => exact ⟨by rw [HP.out]; rfl, rfl⟩
                          | false =>
                            cases b3 with
                            | true =>
                              go_wp2_with (first | (go_at_call 35; refine (hLe _).mono ?_; rintro e w0 ⟨rfl, hw0⟩; rw [hw0]; clear hw0) | (go_at_call 36; refine (hDi _).mono ?_; rintro e w0 ⟨rfl, hw0⟩; rw [hw0]; clear hw0))
                              go_meet
                              case rel => exact ⟨by rw [HP.out]; rfl, rfl⟩
                            | false =>
                              cases b4 with
                              | true =>
                                go_wp2_with (first | (go_at_call 35; refine (hLe _).mono ?_; rintro e w0 ⟨rfl, hw0⟩; rw [hw0]; clear hw0) | (go_at_call 36; refine (hDi _).mono ?_; rintro e w0 ⟨rfl, hw0⟩; rw [hw0]; clear hw0))
                                go_meet
                                case rel => exact ⟨by rw [HP.out]; rfl, rfl⟩
                              | false =>
                                cases b5 with
                                | true =>
                                  go_wp2_with (first | (go_at_call 35; refine (hLe _).mono ?_; rintro e w0 ⟨rfl, hw0⟩; rw [hw0]; clear hw0) | (go_at_call 36; refine (hDi _).mono ?_; rintro e w0 ⟨rfl, hw0⟩; rw [hw0]; clear hw0))
                                  go_meet
                                  case rel => exact ⟨by rw [HP.out]; rfl, rfl⟩
                                | false =>
                                  go_wp2_with (first | (go_at_call 35; refine (hLe _).mono ?_; rintro e w0 ⟨rfl, hw0⟩; rw [hw0]; clear hw0) | (go_at_call 36; refine (hDi _).mono ?_; rintro e w0 ⟨rfl, hw0⟩; rw [hw0]; clear hw0))
                                  go_meet
                                  case rel => exact ⟨by rw [HP.out]; rfl, rfl⟩
                      case rest =>
                        obtain ⟨rfl, rfl⟩ := hcut
                        cases pb with
                        | true =>
                          have HS1 : Hid _ := hS.out.1 rfl
                          go_wp2_with fail
                          go_round
                          case rel => exact ⟨j + 1, by go_num, by omega, by omega, by unfold Hid; rw [show j + 1 - k = j - k + 1 by omega]; exact HS1.out⟩
                          case measure => simp [intOf]; omega
                        | false =>
                          have HS2 := hS.out.2 rfl
                          replace HS2 : Hid _ := HS2
                          go_wp2_with fail
                          go_meet
                          case rel => exact ⟨j, 1, [], rfl, by omega, by omega, t2, k2, by unfold Hid; rw [HF.out j HS2.out]; rfl, by unfold Hid; decide⟩
                    · have hjc : ¬ (j : Int) < (l.length : Int) := by omega
                      obtain rfl : j = l.length := by omega
                      have HS2 : Hid (l.length - k = rnF inNm (l.drop k)) := by
                        have := HJ.out
                        rw [List.drop_drop, show k + (l.length - k) = l.length by omega, List.drop_length] at this
                        exact this
                      go_upto_region 12 with fail
                      go_cut [76] from 43 to 78 (fun sc wx => sc = .bool false ∧ wx = w2)
                      case first =>
                        go_wp2_with fail
                        go_meet
                        case rel => exact ⟨rfl, rfl⟩
                      case rest =>
                        obtain ⟨rfl, rfl⟩ := hcut
                        go_wp2_with fail
                        go_meet
                        case rel => exact ⟨l.length, 1, [], rfl, by omega, by omega, t2, k2, by unfold Hid; rw [HF.out l.length HS2.out]; rfl, by unfold Hid; decide⟩
            · by_cases n3 : kd c = 3 ∨ kd c = 4 ∨ kd c = 5
              · clear q8 q6 q7 q9 q1 qn qu
                as_aux_lemma =>
                  rw [decide_eq_true n3] at q3
                  have hkd : inNu (kd c) = true := by rcases n3 with h | h | h <;> (rw [h]; rfl)
                  have hr0 := (rn_step inNu (l.drop k) 0 (by rw [List.length_drop]; omega) (by simp)).1 (by rw [getD_drop, Nat.add_zero, hc]; exact hkd)
                  obtain ⟨w2, hw2, t2, k2⟩ : ∃ w2, w1.setCell ⟨wr.heap.size, 0, none⟩ (.int .u8 2) = w2 ∧ w2.heap[wr.heap.size]? = some (.cells #[.int .u8 2, .string ⟨#[]⟩, .int .i64 (k : Nat)] 44 (0, 0)) ∧ Keep wr w2 := by
                    refine ⟨_, rfl, ?_, k1.setCell (Nat.le_refl _) _⟩
                    have a0 := heap_setCell_same w1 wr.heap.size 0 _ 44 (.int .u8 2) t1
                    simpa using a0
                  have HF : Hid (∀ j, j - k = rnF inNu (l.drop k) → fw (l.drop k) = .ok 2 ((l.drop k).take (j - k)) (j - k)) := by
                    intro j hj
                    rw [hj, tk_run, hd]
                    unfold fw; simp only []
                    rw [if_neg n2, if_pos n3]; rfl
                  obtain ⟨b0, hb0⟩ : ∃ b, leB c = b := ⟨_, rfl⟩
                  obtain ⟨b9, hb9⟩ : ∃ b, decide (c = 95) = b := ⟨_, rfl⟩
                  rw [decide_eq_false n2, hb0, hb9] at q2
                  obtain ⟨b1, hb1⟩ : ∃ b, diB c = b := ⟨_, rfl⟩
                  obtain ⟨b2, hb2⟩ : ∃ b, decide (c = 43) = b := ⟨_, rfl⟩
                  obtain ⟨b3, hb3⟩ : ∃ b, decide (c = 45) = b := ⟨_, rfl⟩
                  obtain ⟨b4, hb4⟩ : ∃ b, decide (c = 46) = b := ⟨_, rfl⟩
                  have f95 : ((c.toNat : Int) == 95) = b9 := by rw [← hb9, ← ub_eq c 95]; rfl
                  have f43 : ((c.toNat : Int) == 43) = b2 := by rw [← hb2, ← ub_eq c 43]; rfl
                  have f45 : ((c.toNat : Int) == 45) = b3 := by rw [← hb3, ← ub_eq c 45]; rfl
                  have f46 : ((c.toNat : Int) == 46) = b4 := by rw [← hb4, ← ub_eq c 46]; rfl
                  rw [hb1, hb2, hb3, hb4] at q3
                  have hLc := fun wx => rletter_any c wx
                  rw [hb0] at hLc
                  have hDc := fun wx => rdigit_any c wx
                  rw [hb1] at hDc
                  obtain ⟨rfl, rfl⟩ : b0 = false ∧ b9 = false := by revert q2; cases b0 <;> cases b9 <;> simp
                  replace q3 : Hid _ := q3
                  clear hb0 hb9 hb1 hb2 hb3 hb4 hd hc n2 n3 c1 c9 q2 hkd
                  generalize c.toNat = n at *
                  go_upto_region 14 with (go_at_call 35; refine (hLc _).mono ?_; rintro e w0 ⟨rfl, hw0⟩; rw [hw0]; clear hw0)
                  go_cut [79] from 13 to 201 (fun sc wx => sc = .bool true ∧ wx = w1)
                  case first =>
                    cases b1 <;> cases b2 <;> cases b3 <;> cases b4 <;> first
                      | (exact absurd q3.out (by decide))
                      | (go_wp2_with (go_at_call 36; refine (hDc _).mono ?_; rintro e w0 ⟨rfl, hw0⟩; rw [hw0]; clear hw0)
                         go_meet
                         case rel => exact ⟨rfl, rfl⟩)
                      | (go_wp2_with (go_at_call 36; refine (hDc _).mono ?_; rintro e w0 ⟨rfl, hw0⟩; rw [hw0]; clear hw0)
                         done)
                  case rest =>
                    obtain ⟨rfl, rfl⟩ := hcut
                    clear q3 f95 f43 f45 f46 hLc hDc
                    go_wp2_with (rw [hw2])
                    go_loop [9] (fun jv => ∃ j : Nat, jv = .int .i64 j ∧ k + 1 ≤ j ∧ j ≤ l.length ∧ Hid ((j - k) + rnF inNu ((l.drop k).drop (j - k)) = rnF inNu (l.drop k))) (fun jv => l.length - (intOf jv).toNat)
                    case atStart => exact ⟨k + 1, by go_num, by omega, by have := HK.out; omega, by unfold Hid; rw [show k + 1 - k = 0 + 1 by omega]; exact hr0⟩
                    case round =>
                      obtain ⟨j, rfl, hkj, hjl, HJ⟩ := hrel
                      have hjb : j ≤ 4294967000 := by omega
                      by_cases hjlt : j < l.length
                      · have hjc : decide ((j : Int) < (l.length : Int)) = true := decide_eq_true (by omega)
                        have hxj := run_ix l j hjlt
                        have hS := rn_step inNu (l.drop k) (j - k) (by rw [List.length_drop]; omega) HJ.out
                        rw [getD_drop, show k + (j - k) = j by omega] at hS
                        obtain ⟨x, hx0⟩ : ∃ x, l.getD j 0 = x := ⟨_, rfl⟩
                        rw [hx0] at hxj hS
                        obtain ⟨_, _, _, _, _, _, _, qnx, qux⟩ := tests_of x
                        have hLe := fun wx => rletter_any x wx
                        have hDi := fun wx => rdigit_any x wx
                        obtain ⟨b1, hb1⟩ : ∃ b, leB x = b := ⟨_, rfl⟩
                        obtain ⟨b2, hb2⟩ : ∃ b, diB x = b := ⟨_, rfl⟩
                        obtain ⟨b3, hb3⟩ : ∃ b, decide (x = 95) = b := ⟨_, rfl⟩
                        obtain ⟨b4, hb4⟩ : ∃ b, decide (x = 45) = b := ⟨_, rfl⟩
                        obtain ⟨b5, hb5⟩ : ∃ b, decide (x = 46) = b := ⟨_, rfl⟩
                        obtain ⟨b6, hb6⟩ : ∃ b, decide (x = 43) = b := ⟨_, rfl⟩
                        have f95 : ((x.toNat : Int) == 95) = b3 := by rw [← hb3, ← ub_eq x 95]; rfl
                        have f45 : ((x.toNat : Int) == 45) = b4 := by rw [← hb4, ← ub_eq x 45]; rfl
                        have f46 : ((x.toNat : Int) == 46) = b5 := by rw [← hb5, ← ub_eq x 46]; rfl
                        have f43 : ((x.toNat : Int) == 43) = b6 := by rw [← hb6, ← ub_eq x 43]; rfl
                        rw [hb1, hb2, hb3, hb4, hb5, hb6] at qux
                        rw [hb1] at hLe
                        rw [hb2] at hDi
                        have HP : Hid (inNu (kd x) = (b1 || b2 || b3 || b4 || b5 || b6)) := qux
                        clear qnx qux hb1 hb2 hb3 hb4 hb5 hb6 hx0
                        obtain ⟨pb, hpb⟩ : ∃ pb, inNu (kd x) = pb := ⟨_, rfl⟩
                        rw [hpb] at HP hS
                        clear hpb
                        generalize x.toNat = nx at *
                        replace hS : Hid _ := hS
                        go_upto_region 16 with fail
                        go_cut [134] from 95 to 136 (fun sc wx => sc = .bool pb ∧ wx = w2)
                        case first =>
                          cases b1 with
                          | true =>
                            go_wp2_with (first | (go_at_call 35; refine (hLe _).mono ?_; rintro e w0 ⟨rfl, hw0⟩; rw [hw0]; clear hw0) | (go_at_call 36; refine (hDi _).mono ?_; rintro e w0 ⟨rfl, hw0⟩; rw [hw0]; clear hw0))
                            go_meet
                            case rel => exact ⟨by rw [HP.out]; rfl, rfl⟩
                          | false =>
                            cases b2 with
                            | true =>
                              go_wp2_with (first | (go_at_call 35; refine (hLe _).mono ?_; rintro e w0 ⟨rfl, hw0⟩; rw [hw0]; clear hw0) | (go_at_call 36; refine (hDi _).mono ?_; rintro e w0 ⟨rfl, hw0⟩; rw [hw0]; clear hw0))
                              go_meet
                              case rel => exact ⟨by rw [HP.out]; rfl, rfl⟩
                            | false =>
                              cases b3 with
                              | true =>
                                go_wp2_with (first | (go_at_call 35; refine (hLe _).mono ?_; rintro e w0 ⟨rfl, hw0⟩; rw [hw0]; clear hw0) | (go_at_call 36; refine (hDi _).mono ?_; rintro e w0 ⟨rfl, hw0⟩; rw [hw0]; clear hw0))
                                go_meet
                                case rel => exact ⟨by rw [HP.out]; rfl, rfl⟩
                              | false =>
                                cases b4 with
                                | true =>
                                  go_wp2_with (first | (go_at_call 35; refine (hLe _).mono ?_; rintro e w0 ⟨rfl, hw0⟩; rw [hw0]; clear hw0) | (go_at_call 36; refine (hDi _).mono ?_; rintro e w0 ⟨rfl, hw0⟩; rw [hw0]; clear hw0))
                                  go_meet
                                  case rel => exact ⟨by rw [HP.out]; rfl, rfl⟩
                                | false =>
                                  cases b5 with
                                  | true =>
                                    go_wp2_with (first | (go_at_call 35; refine (hLe _).mono ?_; rintro e w0 ⟨rfl, hw0⟩; rw [hw0]; clear hw0) | (go_at_call 36; refine (hDi _).mono ?_; rintro e w0 ⟨rfl, hw0⟩; rw [hw0]; clear hw0))
                                    go_meet
                                    case rel => exact ⟨by rw [HP.out]; rfl, rfl⟩
                                  | false =>
                                    cases b6 with
                                    | true =>
                                      go_wp2_with (first | (go_at_call 35; refine (hLe _).mono ?_; rintro e w0 ⟨rfl, hw0⟩; rw [hw0]; clear hw0) | (go_at_call 36; refine (hDi _).mono ?_; rintro e w0 ⟨rfl, hw0⟩; rw [hw0]; clear hw0))
                                      go_meet
                                      case rel => exact ⟨by rw [HP.out]; rfl, rfl⟩
                                    | false =>
                                      go_wp2_with (first | (go_at_call 35; refine (hLe _).mono ?_; rintro e w0 ⟨rfl, hw0⟩; rw [hw0]; clear hw0) | (go_at_call 36; refine (hDi _).mono ?_; rintro e w0 ⟨rfl, hw0⟩; rw [hw0]; clear hw0))
                                      go_meet
                                      case rel => exact ⟨by rw [HP.out]; rfl, rfl⟩
                        case rest =>
                          obtain ⟨rfl, rfl⟩ := hcut
                          cases pb with
                          | true =>
                            have HS1 : Hid _ := hS.out.1 rfl
                            go_wp2_with fail
                            go_round
                            case rel => exact ⟨j + 1, by go_num, by omega, by omega, by unfold Hid; rw [show j + 1 - k = j - k + 1 by omega]; exact HS1.out⟩
                            case measure => simp [intOf]; omega
                          | false =>
                            have HS2 := hS.out.2 rfl
                            replace HS2 : Hid _ := HS2
                            go_wp2_with fail
                            go_meet
                            case rel => exact ⟨j, 2, [], rfl, by omega, by omega, t2, k2, by unfold Hid; rw [HF.out j HS2.out]; rfl, by unfold Hid; decide⟩
                      · have hjc : ¬ (j : Int) < (l.length : Int) := by omega
                        obtain rfl : j = l.length := by omega
                        have HS2 : Hid (l.length - k = rnF inNu (l.drop k)) := by
                          have := HJ.out
                          rw [List.drop_drop, show k + (l.length - k) = l.length by omega, List.drop_length] at this
                          exact this
                        go_upto_region 16 with fail
                        go_cut [134] from 95 to 136 (fun sc wx => sc = .bool false ∧ wx = w2)
                        case first =>
                          go_wp2_with fail
                          go_meet
                          case rel => exact ⟨rfl, rfl⟩
                        case rest =>
                          obtain ⟨rfl, rfl⟩ := hcut
                          go_wp2_with fail
                          go_meet
                          case rel => exact ⟨l.length, 2, [], rfl, by omega, by omega, t2, k2, by unfold Hid; rw [HF.out l.length HS2.out]; rfl, by unfold Hid; decide⟩
              · clear q9 q1 qn qu
                obtain ⟨b0, hb0⟩ : ∃ b, leB c = b := ⟨_, rfl⟩
                obtain ⟨b9, hb9⟩ : ∃ b, decide (c = 95) = b := ⟨_, rfl⟩
                rw [decide_eq_false n2, hb0, hb9] at q2
                obtain ⟨b1, hb1⟩ : ∃ b, diB c = b := ⟨_, rfl⟩
                obtain ⟨b2, hb2⟩ : ∃ b, decide (c = 43) = b := ⟨_, rfl⟩
                obtain ⟨b3, hb3⟩ : ∃ b, decide (c = 45) = b := ⟨_, rfl⟩
                obtain ⟨b4, hb4⟩ : ∃ b, decide (c = 46) = b := ⟨_, rfl⟩
                have f95 : ((c.toNat : Int) == 95) = b9 := by rw [← hb9, ← ub_eq c 95]; rfl
                have f43 : ((c.toNat : Int) == 43) = b2 := by rw [← hb2, ← ub_eq c 43]; rfl
                have f45 : ((c.toNat : Int) == 45) = b3 := by rw [← hb3, ← ub_eq c 45]; rfl
                have f46 : ((c.toNat : Int) == 46) = b4 := by rw [← hb4, ← ub_eq c 46]; rfl
                rw [decide_eq_false n3, hb1, hb2, hb3, hb4] at q3
                have hLc := fun wx => rletter_any c wx
                rw [hb0] at hLc
                have hDc := fun wx => rdigit_any c wx
                rw [hb1] at hDc
                obtain ⟨rfl, rfl⟩ : b0 = false ∧ b9 = false := by revert q2; cases b0 <;> cases b9 <;> simp
                obtain ⟨rfl, rfl, rfl, rfl⟩ : b1 = false ∧ b2 = false ∧ b3 = false ∧ b4 = false := by revert q3; cases b1 <;> cases b2 <;> cases b3 <;> cases b4 <;> simp
                clear hb0 hb9 hb1 hb2 hb3 hb4 q2 q3
                have f34 : ((c.toNat : Int) == 34) = decide (c = 34) := by rw [← ub_eq c 34]; rfl
                by_cases n8 : kd c = 8
                · have n6 : ¬ (kd c = 6 ∨ kd c = 7) := by omega
                  clear q6 q7
                  as_aux_lemma =>
                    rw [decide_eq_true n8] at q8
                    rw [q8] at f34
                    obtain ⟨w2, hw2, t2, k2⟩ : ∃ w2, w1.setCell ⟨wr.heap.size, 0, none⟩ (.int .u8 3) = w2 ∧ w2.heap[wr.heap.size]? = some (.cells #[.int .u8 3, .string ⟨#[]⟩, .int .i64 (k : Nat)] 44 (0, 0)) ∧ Keep wr w2 := by
                      refine ⟨_, rfl, ?_, k1.setCell (Nat.le_refl _) _⟩
                      have a0 := heap_setCell_same w1 wr.heap.size 0 _ 44 (.int .u8 3) t1
                      simpa using a0
                    have hQ := rquoted_any l k w2 HK.out hs
                    obtain ⟨tt, m, ok, hq⟩ : ∃ tt m ok, uq (l.drop (k + 1)) [] 1 = (tt, m, ok) := ⟨_, _, _, rfl⟩
                    have hul := uq_le (l.drop (k + 1)).length (l.drop (k + 1)) [] 1 (Nat.le_refl _)
                    rw [hq] at hQ hul
                    unfold qdV at hQ
                    simp only [] at hQ
                    rw [List.length_drop] at hul
                    have hu1 : m ≤ 1 + (l.length - (k + 1)) := hul.1
                    have hmb : m ≤ 4294967000 := by have := HK.out; omega
                    cases ok with
                    | true =>
                      have hu2 : 1 + 1 ≤ m := hul.2.1 rfl
                      have HF : Hid (fw (l.drop k) = .ok 3 tt m) := by
                        unfold Hid
                        rw [hd]
                        unfold fw; simp only []
                        rw [if_neg n2, if_neg n3, if_neg n6, if_pos n8, hq]
                      clear hd hc n2 n3 n6 n8 c1 c9 hq hul q8
                      generalize c.toNat = n at *
                      go_wp2_with (first
                        | (go_at_call 35; refine (hLc _).mono ?_; rintro e w0 ⟨rfl, hw0⟩; rw [hw0]; clear hw0)
                        | (go_at_call 36; refine (hDc _).mono ?_; rintro e w0 ⟨rfl, hw0⟩; rw [hw0]; clear hw0)
                        | rw [hw2]
                        | (go_at_call 37; refine hQ.mono ?_; rintro e w3 ⟨rfl, k3⟩
                           have t3 := k3.at t2
                           obtain ⟨p0, p1, p2, g0, g1, g2⟩ := cells3 t3))
                      go_meet
                      case rel =>
                        refine ⟨k + m, 3, tt, by go_num, by omega, by have := HK.out; omega, ?_, (k2.trans k3).setCell (Nat.le_refl _) _, ?_, by unfold Hid; decide⟩
                        · have a0 := heap_setCell_same w3 wr.heap.size 1 _ 44 (.string ⟨tt.toArray⟩) t3
                          simpa using a0
                        · unfold Hid; rw [if_pos rfl, HF.out, show k + m - k = m by omega]
                    | false =>
                      have HF : Hid (fw (l.drop k) = .bad 31 m) := by
                        unfold Hid
                        rw [hd]
                        unfold fw; simp only []
                        rw [if_neg n2, if_neg n3, if_neg n6, if_pos n8, hq]
                      have HX : Hid (([], 31, k + m) = R) := by
                        have := hC.out
                        rw [← hd, HF.out] at this
                        exact this
                      clear hd hc n2 n3 n6 n8 c1 c9 hq hul q8
                      generalize c.toNat = n at *
                      go_wp2_with (first
                        | (go_at_call 35; refine (hLc _).mono ?_; rintro e w0 ⟨rfl, hw0⟩; rw [hw0]; clear hw0)
                        | (go_at_call 36; refine (hDc _).mono ?_; rintro e w0 ⟨rfl, hw0⟩; rw [hw0]; clear hw0)
                        | rw [hw2]
                        | (go_at_call 37; refine hQ.mono ?_; rintro e w3 ⟨rfl, k3⟩))
                      go_ret3
                      exact ⟨_, by rw [← HX.out]; rfl, by rw [← HX.out]; exact own_nil _ _ _ _, (Keep.trans kw.out k2).trans k3⟩
                · 
                  as_aux_lemma =>
                    rw [decide_eq_false n8] at q8
                    rw [q8] at f34
                    obtain ⟨g1, hg1⟩ : ∃ b, decide (c = 60) = b := ⟨_, rfl⟩
                    obtain ⟨g2, hg2⟩ : ∃ b, decide (c = 62) = b := ⟨_, rfl⟩
                    obtain ⟨g3, hg3⟩ : ∃ b, decide (c = 33) = b := ⟨_, rfl⟩
                    have f60 : ((c.toNat : Int) == 60) = g1 := by rw [← hg1, ← ub_eq c 60]; rfl
                    have f62 : ((c.toNat : Int) == 62) = g2 := by rw [← hg2, ← ub_eq c 62]; rfl
                    have f33 : ((c.toNat : Int) == 33) = g3 := by rw [← hg3, ← ub_eq c 33]; rfl
                    have hMk := fun wx => rmark_any c wx
                    obtain ⟨m6, hm6⟩ : ∃ b, mkB c = b := ⟨_, rfl⟩
                    rw [hm6] at hMk q6
                    obtain ⟨w2, hw2, t2, k2⟩ : ∃ w2, w1.setCell ⟨wr.heap.size, 0, none⟩ (.int .u8 4) = w2 ∧ w2.heap[wr.heap.size]? = some (.cells #[.int .u8 4, .string ⟨#[]⟩, .int .i64 (k : Nat)] 44 (0, 0)) ∧ Keep wr w2 := by
                      refine ⟨_, rfl, ?_, k1.setCell (Nat.le_refl _) _⟩
                      have a0 := heap_setCell_same w1 wr.heap.size 0 _ 44 (.int .u8 4) t1
                      simpa using a0
                    obtain ⟨tw, htw⟩ : ∃ tw, ((g1 || g2 || g3) && (decide (k + 1 < l.length) && decide (l.getD (k + 1) 0 = 61))) = tw := ⟨_, rfl⟩
                    have hone : Hid ((c = 60 ∨ c = 62 ∨ c = 33) ↔ (g1 || g2 || g3) = true) := by
                      unfold Hid; rw [← hg1, ← hg2, ← hg3]; simp only [Bool.or_eq_true, decide_eq_true_eq]
                      constructor
                      · rintro (h | h | h)
                        · exact .inl (.inl h)
                        · exact .inl (.inr h)
                        · exact .inr h
                      · rintro ((h | h) | h)
                        · exact .inl h
                        · exact .inr (.inl h)
                        · exact .inr (.inr h)
                    have hhd : Hid ((l.drop (k + 1)).head? = some 61 ↔ (k + 1 < l.length ∧ l.getD (k + 1) 0 = 61)) := by
                      unfold Hid
                      by_cases h : k + 1 < l.length
                      · rw [drop_cons l (k + 1) h]; simp [h]
                      · rw [List.drop_eq_nil_of_le (by omega)]; simp [h]
                    have hfw : Hid (fw (l.drop k) = if tw = true then .ok 4 ((l.drop k).take 2) 2 else if m6 = true then .ok 4 ((l.drop k).take 1) 1 else .bad 30 0) := by
                      unfold Hid
                      by_cases two : (c = 60 ∨ c = 62 ∨ c = 33) ∧ (l.drop (k + 1)).head? = some 61
                      · have ht : tw = true := by
                          rw [← htw, (hone.out).1 two.1]
                          obtain ⟨x1, x2⟩ := hhd.out.1 two.2
                          rw [decide_eq_true x1, decide_eq_true x2]; rfl
                        rw [if_pos ht, hd]
                        have n67 : kd c = 6 ∨ kd c = 7 := by
                          rcases two.1 with h | h | h <;> (rw [h]; decide)
                        unfold fw; simp only []
                        rw [if_neg n2, if_neg n3, if_pos n67, if_pos two]
                      · have ht : ¬ tw = true := by
                          rw [← htw]
                          intro h
                          rw [Bool.and_eq_true, Bool.and_eq_true, decide_eq_true_eq, decide_eq_true_eq] at h
                          exact two ⟨hone.out.2 h.1, hhd.out.2 h.2⟩
                        rw [if_neg ht, hd]
                        unfold fw; simp only []
                        rw [if_neg n2, if_neg n3, if_neg two]
                        by_cases n6 : kd c = 6
                        · rw [if_pos (.inl n6), if_neg (by omega), if_pos (by rw [q6]; exact decide_eq_true n6)]; rfl
                        · rw [if_neg (show ¬ m6 = true by rw [q6]; simpa using n6)]
                          by_cases n7 : kd c = 7
                          · rw [if_pos (.inr n7), if_pos n7]
                          · rw [if_neg (by omega), if_neg n8]
                    have hCx : Hid (ws k (l.drop k) acc = R → True) := fun _ => trivial
                    have hbad : Hid (fw (l.drop k) = .bad 30 0 → ([], 30, k) = R) := fun h => by
                      have := hC.out
                      rw [← hd, h] at this
                      exact this
                    replace htw : Hid _ := htw
                    clear hd hc n2 n3 n8 c1 c9 q8 q7 q6 hm6 hone hhd hg1 hg2 hg3 hCx
                    generalize c.toNat = n at *
                    go_upto_region 25 with (first
                      | (go_at_call 35; refine (hLc _).mono ?_; rintro e w0 ⟨rfl, hw0⟩; rw [hw0]; clear hw0)
                      | (go_at_call 36; refine (hDc _).mono ?_; rintro e w0 ⟨rfl, hw0⟩; rw [hw0]; clear hw0))
                    go_cut [154] from 13 to 201 (fun sc wx => sc = .bool tw ∧ wx = w1)
                    case first =>
                      clear hfw hbad hMk hLc hDc f95 f43 f45 f46 f34
                      by_cases hl2 : k + 1 < l.length
                      · have hx2 : ∀ w, (Instr.index 9 (.string ⟨l.toArray⟩) (.int .i64 ((k : Int) + 1))).run Tryd.prog w = .ok (.int .u8 ((l.getD (k + 1) 0).toNat : Nat)) w := fun w => run_ix l (k + 1) hl2 w
                        have hl2c : decide ((k : Int) + 1 < (l.length : Int)) = true := decide_eq_true (by omega)
                        obtain ⟨b6, hb6⟩ : ∃ b, decide (l.getD (k + 1) 0 = 61) = b := ⟨_, rfl⟩
                        have f61 : (((l.getD (k + 1) 0).toNat : Int) == 61) = b6 := by rw [← hb6, ← ub_eq _ 61]; rfl
                        have htw2 := htw.out
                        rw [hb6, decide_eq_true hl2] at htw2
                        replace htw2 : Hid _ := htw2
                        clear hb6 htw
                        generalize (l.getD (k + 1) 0).toNat = n61 at *
                        cases g1 with
                        | true =>
                          cases b6 with
                          | true =>
                            as_aux_lemma =>
                              go_wp2_with fail
                              go_meet
                              case rel => exact ⟨congrArg Value.bool htw2.out, rfl⟩
                          | false =>
                            as_aux_lemma =>
                              go_wp2_with fail
                              go_meet
                              case rel => exact ⟨congrArg Value.bool htw2.out, rfl⟩
                        | false =>
                          cases g2 with
                          | true =>
                            cases b6 with
                            | true =>
                              as_aux_lemma =>
                                go_wp2_with fail
                                go_meet
                                case rel => exact ⟨congrArg Value.bool htw2.out, rfl⟩
                            | false =>
                              as_aux_lemma =>
                                go_wp2_with fail
                                go_meet
                                case rel => exact ⟨congrArg Value.bool htw2.out, rfl⟩
                          | false =>
                            cases g3 with
                            | true =>
                              cases b6 with
                              | true =>
                                as_aux_lemma =>
                                  go_wp2_with fail
                                  go_meet
                                  case rel => exact ⟨congrArg Value.bool htw2.out, rfl⟩
                              | false =>
                                as_aux_lemma =>
                                  go_wp2_with fail
                                  go_meet
                                  case rel => exact ⟨congrArg Value.bool htw2.out, rfl⟩
                            | false =>
                              cases b6 with
                              | true =>
                                as_aux_lemma =>
                                  go_wp2_with fail
                                  go_meet
                                  case rel => exact ⟨congrArg Value.bool htw2.out, rfl⟩
                              | false =>
                                as_aux_lemma =>
                                  go_wp2_with fail
                                  go_meet
                                  case rel => exact ⟨congrArg Value.bool htw2.out, rfl⟩
                      · have hl2c : decide ((k : Int) + 1 < (l.length : Int)) = false := decide_eq_false (by omega)
                        have htw2 := htw.out
                        rw [decide_eq_false hl2, Bool.false_and, Bool.and_false] at htw2
                        replace htw2 : Hid _ := htw2
                        clear htw
                        cases g1 with
                        | true =>
                          as_aux_lemma =>
                            go_wp2_with fail
                            go_meet
                            case rel => exact ⟨congrArg Value.bool htw2.out, rfl⟩
                        | false =>
                          cases g2 with
                          | true =>
                            as_aux_lemma =>
                              go_wp2_with fail
                              go_meet
                              case rel => exact ⟨congrArg Value.bool htw2.out, rfl⟩
                          | false =>
                            cases g3 with
                            | true =>
                              as_aux_lemma =>
                                go_wp2_with fail
                                go_meet
                                case rel => exact ⟨congrArg Value.bool htw2.out, rfl⟩
                            | false =>
                              as_aux_lemma =>
                                go_wp2_with fail
                                go_meet
                                case rel => exact ⟨congrArg Value.bool htw2.out, rfl⟩
                    case rest =>
                      obtain ⟨rfl, rfl⟩ := hcut
                      clear f60 f62 f33 hLc hDc f95 f43 f45 f46 f34
                      have htw3 : Hid (tw = true → k + 1 < l.length) := fun h => by
                        have := htw.out
                        rw [h, Bool.and_eq_true, Bool.and_eq_true, decide_eq_true_eq] at this
                        exact this.2.1
                      clear htw
                      cases tw with
                      | true =>
                        have HF : Hid (fw (l.drop k) = .ok 4 ((l.drop k).take 2) 2) := hfw.out
                        have HL2 := htw3.out rfl
                        replace HL2 : Hid _ := HL2
                        clear hfw hbad hMk htw3
                        go_wp2_with (rw [hw2])
                        go_meet
                        case rel => exact ⟨k + 2, 4, [], by go_num, by omega, by have := HL2.out; omega, t2, k2, by unfold Hid; rw [if_neg (by decide), show k + 2 - k = 2 by omega]; exact HF.out, by unfold Hid; decide⟩
                      | false =>
                        clear htw3
                        cases m6 with
                        | true =>
                          have HF : Hid (fw (l.drop k) = .ok 4 ((l.drop k).take 1) 1) := hfw.out
                          clear hfw hbad
                          go_wp2_with (first
                            | rw [hw4]
                            | (go_at_call 38; refine (hMk _).mono ?_; rintro e w3 ⟨rfl, k3⟩
                               have t3 := k3.at t1
                               obtain ⟨p0, p1, p2, g0', g1', g2'⟩ := cells3 t3
                               obtain ⟨w4, hw4, t4, k4⟩ : ∃ w4, w3.setCell ⟨wr.heap.size, 0, none⟩ (.int .u8 4) = w4 ∧ w4.heap[wr.heap.size]? = some (.cells #[.int .u8 4, .string ⟨#[]⟩, .int .i64 (k : Nat)] 44 (0, 0)) ∧ Keep wr w4 := by
                                 refine ⟨_, rfl, ?_, (k1.trans k3).setCell (Nat.le_refl _) _⟩
                                 have a0 := heap_setCell_same w3 wr.heap.size 0 _ 44 (.int .u8 4) t3
                                 simpa using a0))
                          go_meet
                          case rel => exact ⟨k + 1, 4, [], by go_num, by omega, by have := HK.out; omega, t4, k4, by unfold Hid; rw [if_neg (by decide), show k + 1 - k = 1 by omega]; exact HF.out, by unfold Hid; decide⟩
                        | false =>
                          have HX : Hid (([], 30, k) = R) := hbad.out hfw.out
                          clear hfw hbad
                          go_wp2_with (go_at_call 38; refine (hMk _).mono ?_; rintro e w3 ⟨rfl, k3⟩)
                          go_ret3
                          exact ⟨_, by rw [← HX.out]; rfl, by rw [← HX.out]; exact own_nil _ _ _ _, (Keep.trans kw.out k1).trans k3⟩
          case rest =>
            obtain ⟨j, kk, tx, rfl, hkj, hjl, t2, k2, HF, hk256⟩ := hcut
            obtain ⟨p0, p1, p2, g0, g1, g2⟩ := cells3 t2
            have hjb : j ≤ 4294967000 := by omega
            have hzz : wr.heap.size < wc.heap.size := lt_of_at t2
            have hCC := hC.out
            rw [← hd, HF.out] at hCC
            simp only [] at hCC
            by_cases n3 : kk = 3
            · rw [if_pos n3] at hCC
              have e3 : ((kk : Int) != 3) = false := by rw [n3]; rfl
              have hst := sz_mk tx
              by_cases hlong : 65536 < tx.length
              · rw [if_pos hlong] at hCC
                have hlc : decide ((65536 : Int) < (tx.length : Int)) = true := decide_eq_true (by omega)
                replace hCC : Hid _ := hCC
                clear hd hC HF hlong n3
                go_wp2_with (first
                  | rw [hw4]
                  | rw [hsl])
                go_ret3
                exact ⟨_, by rw [← hCC.out]; rfl, by rw [← hCC.out]; exact own_nil _ _ _ _, Keep.trans kw.out k2⟩
              · rw [if_neg hlong, List.drop_drop, show k + (j - k) = j by omega] at hCC
                have hlc : decide ((65536 : Int) < (tx.length : Int)) = false := decide_eq_false (by omega)
                replace hCC : Hid _ := hCC
                obtain ⟨w6, hw6, k6, t6, s6⟩ := boxed wc #[.int .u8 (kk : Nat), .string ⟨tx.toArray⟩, .int .i64 (k : Nat)] 44
                have kx : Hid (Keep wr w6) := Keep.trans k2 k6
                have HJ : Hid (k + 1 ≤ j ∧ j ≤ l.length) := ⟨hkj, hjl⟩
                clear hd hC HF hlong n3
                go_wp2_with (first
                  | rw [hw4]
                  | rw [hw6]
                  | rw [hsl]
                  | (at_builtin; refine wpList_appG Tryd.underlying27 i44 (by kernel_rfl) (by decide) (by decide) w.heap.size _ rfl _ _ rfl acc.length (WvL acc) [.int .u8 (kk : Nat), .string ⟨tx.toArray⟩, .int .i64 (k : Nat)] _ rfl (own_keep hO.out kx.out) (Keep.trans kw.out kx.out).le ⟨wc.heap.size, 0, none⟩ 1 rfl rfl (at3 t6) (one3 rfl rfl rfl) (by have := hac.out; omega) ?_; intro v7 w7 hO7 hg7
                     have kf : Hid (Keep w w7) := keep_grown (Keep.trans kw.out kx.out) (own_keep hO.out kx.out) hg7
                     have hOf : Hid (OwnW w.heap.size v7 (acc ++ [(kk, tx, k)]) w7) := by
                       show World.ownsRow _ _ _ _ _ _ _
                       rw [WvL_app, List.length_append, List.length_singleton]; exact hO7
                     clear hO7 hg7))
                go_roundw
                case rel => exact ⟨j, acc ++ [(kk, tx, k)], rfl, hjl, by rw [List.length_append, List.length_singleton]; have := hac.out; omega, kf.out, hOf.out, hCC.out⟩
                case measure => have := HK.out; simp [intOf]; omega
            · rw [if_neg n3] at hCC
              have e3 : ((kk : Int) != 3) = true := by rw [bne_iff_ne]; omega
              have hsl := run_sub l k j (by omega) hjl
              obtain ⟨tk, htk⟩ : ∃ tk, (l.drop k).take (j - k) = tk := ⟨_, rfl⟩
              rw [htk] at hsl hCC
              clear htk
              obtain ⟨w4, hw4, t4, k4⟩ : ∃ w4, wc.setCell ⟨wr.heap.size, 1, none⟩ (.string ⟨tk.toArray⟩) = w4 ∧ w4.heap[wr.heap.size]? = some (.cells #[.int .u8 (kk : Nat), .string ⟨tk.toArray⟩, .int .i64 (k : Nat)] 44 (0, 0)) ∧ Keep wr w4 := by
                refine ⟨_, rfl, ?_, k2.setCell (Nat.le_refl _) _⟩
                have a0 := heap_setCell_same wc wr.heap.size 1 _ 44 (.string ⟨tk.toArray⟩) t2
                simpa using a0
              obtain ⟨s0, s1', s2, r0, r1, r2⟩ := cells3 t4
              have hst := sz_mk tk
              by_cases hlong : 65536 < tk.length
              · rw [if_pos hlong] at hCC
                have hlc : decide ((65536 : Int) < (tk.length : Int)) = true := decide_eq_true (by omega)
                replace hCC : Hid _ := hCC
                clear hd hC HF hlong n3
                go_wp2_with (first
                  | rw [hw4]
                  | rw [hsl])
                go_ret3
                exact ⟨_, by rw [← hCC.out]; rfl, by rw [← hCC.out]; exact own_nil _ _ _ _, Keep.trans kw.out k4⟩
              · rw [if_neg hlong, List.drop_drop, show k + (j - k) = j by omega] at hCC
                have hlc : decide ((65536 : Int) < (tk.length : Int)) = false := decide_eq_false (by omega)
                replace hCC : Hid _ := hCC
                obtain ⟨w6, hw6, k6, t6, s6⟩ := boxed w4 #[.int .u8 (kk : Nat), .string ⟨tk.toArray⟩, .int .i64 (k : Nat)] 44
                have kx : Hid (Keep wr w6) := Keep.trans k4 k6
                have HJ : Hid (k + 1 ≤ j ∧ j ≤ l.length) := ⟨hkj, hjl⟩
                clear hd hC HF hlong n3
                go_wp2_with (first
                  | rw [hw4]
                  | rw [hw6]
                  | rw [hsl]
                  | (at_builtin; refine wpList_appG Tryd.underlying27 i44 (by kernel_rfl) (by decide) (by decide) w.heap.size _ rfl _ _ rfl acc.length (WvL acc) [.int .u8 (kk : Nat), .string ⟨tk.toArray⟩, .int .i64 (k : Nat)] _ rfl (own_keep hO.out kx.out) (Keep.trans kw.out kx.out).le ⟨w4.heap.size, 0, none⟩ 1 rfl rfl (at3 t6) (one3 rfl rfl rfl) (by have := hac.out; omega) ?_; intro v7 w7 hO7 hg7
                     have kf : Hid (Keep w w7) := keep_grown (Keep.trans kw.out kx.out) (own_keep hO.out kx.out) hg7
                     have hOf : Hid (OwnW w.heap.size v7 (acc ++ [(kk, tk, k)]) w7) := by
                       show World.ownsRow _ _ _ _ _ _ _
                       rw [WvL_app, List.length_append, List.length_singleton]; exact hO7
                     clear hO7 hg7))
                go_roundw
                case rel => exact ⟨j, acc ++ [(kk, tk, k)], rfl, hjl, by rw [List.length_append, List.length_singleton]; have := hac.out; omega, kf.out, hOf.out, hCC.out⟩
                case measure => have := HK.out; simp [intOf]; omega
    · have hltc : ¬ (k : Int) < (l.length : Int) := by omega
      obtain rfl : k = l.length := by omega
      have hC := H.out
      rw [List.drop_length, ws_nil] at hC
      replace hC : Hid _ := hC
      clear H
      go_wp2_with fail
      go_ret3
      exact ⟨_, by rw [← hC.out]; rfl, by rw [← hC.out]; exact hO.out, kw.out⟩
end Go.Proofs.YtonfjmibnnioiaaDoor
