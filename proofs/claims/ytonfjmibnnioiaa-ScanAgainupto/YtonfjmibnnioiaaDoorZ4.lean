import Derived.Test.YtonfjmibnnioiaaDoorZ3
set_option linter.unusedVariables false
set_option linter.unusedSimpArgs false
namespace Go.Proofs.YtonfjmibnnioiaaDoor
open Go.RowKit Go.Shelf
/-- What quoted answers of a text at a place. -/
def qdV (p : Nat) (x : (List UInt8) × Nat × Bool) : Value := .tuple #[.string ⟨x.1.toArray⟩, .int .i64 ((p + x.2.1 : Nat) : Int), .bool x.2.2]
theorem ub_lt32 (c : UInt8) : (decide ((c.toNat : Int) < 32)) = decide (c.toNat < 32) := by rw [decide_eq_decide]; omega
set_option maxRecDepth 100000 in
set_option maxHeartbeats 8000000 in
theorem rquoted_any (l : List UInt8) (p : Nat) (w : World) (hp : p < l.length) (hs : l.length ≤ 4294967000) : Calls Tryd.prog 37 #[.string ⟨l.toArray⟩, .int .i64 (p : Nat)] w fun e w' => e = .returned (qdV p (uq (l.drop (p + 1)) [] 1)) ∧ Keep w w' := by
  have hsz := sz_mk l
  obtain ⟨R, hR⟩ : ∃ R, uq (l.drop (p + 1)) [] 1 = R := ⟨_, rfl⟩
  rw [hR]
  replace hR : Hid _ := hR
  have hpb : p ≤ 4294967000 := by omega
  go_enter Tryd.func37, Tryd.ntmps37
  go_wp2_with fail
  go_loopw [1, 7] (fun jv bv wr => ∃ (j : Nat) (t : List UInt8), jv = .int .i64 j ∧ p + 1 ≤ j ∧ j ≤ l.length ∧ t.length ≤ j ∧ OwnB w.heap.size bv t wr ∧ Keep w wr ∧ Hid (uq (l.drop j) t (j - p) = R)) (fun jv _ _ => l.length - (intOf jv).toNat)
  case atStart => exact ⟨p + 1, [], by go_num, by omega, by omega, by simp, OwnB.nil _ _, Keep.refl _, by unfold Hid; rw [show p + 1 - p = 1 by omega]; exact hR.out⟩
  case round =>
    obtain ⟨j, t, rfl, hpj, hjl, htl, hB, kw, HU⟩ := hrel
    have hjb : j ≤ 4294967000 := by omega
    have hC := HU.out
    replace htl : Hid _ := htl
    replace hpj : Hid _ := hpj
    clear HU hR
    by_cases hlt : j < l.length
    · have hx := run_ix l j hlt
      have hgc : decide ((j : Int) < (l.length : Int)) = true := decide_eq_true (by omega)
      rw [drop_cons l j hlt, uq_cons] at hC
      have HL : Hid (j < l.length) := hlt
      by_cases c34 : l.getD j 0 = 34
      · rw [if_pos c34] at hC
        have e34 := ub_is _ 34 34 rfl c34
        have hcv := hB.conv
        replace hC : Hid _ := hC
        replace hB : Hid _ := hB
        replace kw : Hid _ := kw
        clear c34
        generalize (l.getD j 0).toNat = n1 at *
        go_wp2_with fail
        go_ret3
        refine ⟨?_, kw.out⟩
        rw [← hC.out]
        unfold qdV
        simp only []
        rw [show p + (j - p + 1) = j + 1 by have := hpj.out; omega]
        rfl
      · rw [if_neg c34] at hC
        have e34 := ub_no _ 34 34 rfl c34
        by_cases c92 : l.getD j 0 = 92
        · rw [if_pos c92, ← drop_cons l j hlt, List.drop_drop] at hC
          have n32 : decide (((l.getD j 0).toNat : Int) < 32) = false := by rw [c92]; rfl
          have e127 := ub_no (l.getD j 0) 127 127 rfl (by rw [c92]; decide)
          have n92 : (((l.getD j 0).toNat : Int) != 92) = false := by rw [bne, ub_is _ 92 92 rfl c92]; rfl
          replace hB : Hid _ := hB
          replace kw : Hid _ := kw
          clear c34 c92
          generalize (l.getD j 0).toNat = n1 at *
          by_cases hl2 : j + 1 < l.length
          · have hx2 : ∀ w, (Instr.index 9 (.string ⟨l.toArray⟩) (.int .i64 ((j : Int) + 1))).run Tryd.prog w = .ok (.int .u8 ((l.getD (j + 1) 0).toNat : Nat)) w := fun w => run_ix l (j + 1) hl2 w
            have hg2 : decide ((l.length : Int) ≤ (j : Int) + 1) = false := decide_eq_false (by omega)
            have hg2n : ¬ l.length ≤ j + 1 := by omega
            have HL2 : Hid (j + 1 < l.length) := hl2
            rw [drop_cons l (j + 1) hl2] at hC
            obtain ⟨d, hd⟩ : ∃ d, l.getD (j + 1) 0 = d := ⟨_, rfl⟩
            rw [hd] at hC hx2
            replace hd : Hid _ := hd
            by_cases d34 : d = 34
            · have g := ub_is d 34 34 rfl d34
              have hE : esc (d :: l.drop (j + 1 + 1)) = (some d, 2) := by
                unfold esc; simp only []
                rw [if_pos (by simp [d34])]
              rw [hE] at hC
              have HU2 : Hid (uq (l.drop (j + 2)) (t ++ [d]) (j + 2 - p) = R) := by
                unfold Hid; rw [← hC]; simp only []; rw [show j - p + 2 = j + 2 - p by have := hpj.out; omega]
              clear d34 hE hC
              obtain ⟨w6, hw6, k6, t6, s6⟩ := boxed wr #[.int .u8 (d.toNat : Nat)] 5
              go_wp2_with (first
                | rw [hw6]
                | (at_builtin; refine wpList_appG Tryd.underlying58 i5 (by kernel_rfl) (by decide) (by decide) w.heap.size _ rfl _ _ rfl t.length (Lib.byteCells t) [.int .u8 (d.toNat : Nat)] _ rfl (own_keep hB.out k6) (Keep.trans kw.out k6).le ⟨wr.heap.size, 0, none⟩ 1 rfl rfl (at1 t6) (by simp [Value.oneCell']) (by have := htl.out; omega) ?_; intro v7 w7 hO7 hg7
                   have kf : Hid (Keep w w7) := keep_grown (Keep.trans kw.out k6) (own_keep hB.out k6) hg7
                   clear hg7))
              go_roundw
              case rel => exact ⟨j + 2, t ++ [d], by go_num, by have := hpj.out; omega, by have := HL2.out; omega, by rw [List.length_append, List.length_singleton]; have := htl.out; omega, OwnB.more (c := d) (hO7), kf.out, HU2⟩
              case measure => have := HL2.out; simp [intOf]; omega
            · have f34 := ub_no d 34 34 rfl d34
              by_cases d92 : d = 92
              · have g := ub_is d 92 92 rfl d92
                have hE : esc (d :: l.drop (j + 1 + 1)) = (some d, 2) := by
                  unfold esc; simp only []
                  rw [if_pos (by simp [d92])]
                rw [hE] at hC
                have HU2 : Hid (uq (l.drop (j + 2)) (t ++ [d]) (j + 2 - p) = R) := by
                  unfold Hid; rw [← hC]; simp only []; rw [show j - p + 2 = j + 2 - p by have := hpj.out; omega]
                clear d92 hE hC
                obtain ⟨w6, hw6, k6, t6, s6⟩ := boxed wr #[.int .u8 (d.toNat : Nat)] 5
                go_wp2_with (first
                  | rw [hw6]
                  | (at_builtin; refine wpList_appG Tryd.underlying58 i5 (by kernel_rfl) (by decide) (by decide) w.heap.size _ rfl _ _ rfl t.length (Lib.byteCells t) [.int .u8 (d.toNat : Nat)] _ rfl (own_keep hB.out k6) (Keep.trans kw.out k6).le ⟨wr.heap.size, 0, none⟩ 1 rfl rfl (at1 t6) (by simp [Value.oneCell']) (by have := htl.out; omega) ?_; intro v7 w7 hO7 hg7
                     have kf : Hid (Keep w w7) := keep_grown (Keep.trans kw.out k6) (own_keep hB.out k6) hg7
                     clear hg7))
                go_roundw
                case rel => exact ⟨j + 2, t ++ [d], by go_num, by have := hpj.out; omega, by have := HL2.out; omega, by rw [List.length_append, List.length_singleton]; have := htl.out; omega, OwnB.more (c := d) (hO7), kf.out, HU2⟩
                case measure => have := HL2.out; simp [intOf]; omega
              · have f92 := ub_no d 92 92 rfl d92
                by_cases d110 : d = 110
                · have g := ub_is d 110 110 rfl d110
                  have hE : esc (d :: l.drop (j + 1 + 1)) = (some 10, 2) := by
                    subst d110; rfl
                  rw [hE] at hC
                  have HU2 : Hid (uq (l.drop (j + 2)) (t ++ [10]) (j + 2 - p) = R) := by
                    unfold Hid; rw [← hC]; simp only []; rw [show j - p + 2 = j + 2 - p by have := hpj.out; omega]
                  clear d110 d34 d92 hE hC
                  generalize d.toNat = n2 at *
                  obtain ⟨w6, hw6, k6, t6, s6⟩ := boxed wr #[.int .u8 10] 5
                  go_wp2_with (first
                    | rw [hw6]
                    | (at_builtin; refine wpList_appG Tryd.underlying58 i5 (by kernel_rfl) (by decide) (by decide) w.heap.size _ rfl _ _ rfl t.length (Lib.byteCells t) [.int .u8 10] _ rfl (own_keep hB.out k6) (Keep.trans kw.out k6).le ⟨wr.heap.size, 0, none⟩ 1 rfl rfl (at1 t6) (by simp [Value.oneCell']) (by have := htl.out; omega) ?_; intro v7 w7 hO7 hg7
                       have kf : Hid (Keep w w7) := keep_grown (Keep.trans kw.out k6) (own_keep hB.out k6) hg7
                       clear hg7))
                  go_roundw
                  case rel => exact ⟨j + 2, t ++ [10], by go_num, by have := hpj.out; omega, by have := HL2.out; omega, by rw [List.length_append, List.length_singleton]; have := htl.out; omega, OwnB.more (c := 10) (hO7), kf.out, HU2⟩
                  case measure => have := HL2.out; simp [intOf]; omega
                · have f110 := ub_no d 110 110 rfl d110
                  by_cases d116 : d = 116
                  · have g := ub_is d 116 116 rfl d116
                    have hE : esc (d :: l.drop (j + 1 + 1)) = (some 9, 2) := by
                      subst d116; rfl
                    rw [hE] at hC
                    have HU2 : Hid (uq (l.drop (j + 2)) (t ++ [9]) (j + 2 - p) = R) := by
                      unfold Hid; rw [← hC]; simp only []; rw [show j - p + 2 = j + 2 - p by have := hpj.out; omega]
                    clear d116 d34 d92 hE hC
                    generalize d.toNat = n2 at *
                    obtain ⟨w6, hw6, k6, t6, s6⟩ := boxed wr #[.int .u8 9] 5
                    go_wp2_with (first
                      | rw [hw6]
                      | (at_builtin; refine wpList_appG Tryd.underlying58 i5 (by kernel_rfl) (by decide) (by decide) w.heap.size _ rfl _ _ rfl t.length (Lib.byteCells t) [.int .u8 9] _ rfl (own_keep hB.out k6) (Keep.trans kw.out k6).le ⟨wr.heap.size, 0, none⟩ 1 rfl rfl (at1 t6) (by simp [Value.oneCell']) (by have := htl.out; omega) ?_; intro v7 w7 hO7 hg7
                         have kf : Hid (Keep w w7) := keep_grown (Keep.trans kw.out k6) (own_keep hB.out k6) hg7
                         clear hg7))
                    go_roundw
                    case rel => exact ⟨j + 2, t ++ [9], by go_num, by have := hpj.out; omega, by have := HL2.out; omega, by rw [List.length_append, List.length_singleton]; have := htl.out; omega, OwnB.more (c := 9) (hO7), kf.out, HU2⟩
                    case measure => have := HL2.out; simp [intOf]; omega
                  · have f116 := ub_no d 116 116 rfl d116
                    by_cases d120 : d = 120
                    · have f120 := ub_is d 120 120 rfl d120
                      have f34' := f34
                      subst d120
                      rw [esc_x, show j + 1 + 1 = j + 2 by omega] at hC
                      generalize (120 : UInt8).toNat = n2 at *
                      clear d34 d92 d110 d116 hd
                      go_wp2_with fail
                      go_loopw [9, 10] (fun nv kv wx => wx = wr ∧ ((nv = .int .i64 0 ∧ kv = .int .i64 1) ∨ (∃ a, j + 2 < l.length ∧ l.getD (j + 2) 0 = a ∧ nv = .int .i64 (hxV a : Nat) ∧ kv = .int .i64 2 ∧ Hid (hxV a ≠ 16)) ∨ (∃ a b, j + 3 < l.length ∧ l.getD (j + 2) 0 = a ∧ l.getD (j + 3) 0 = b ∧ nv = .int .i64 (16 * (hxV a : Nat) + (hxV b : Nat)) ∧ kv = .int .i64 3 ∧ Hid (hxV a ≠ 16) ∧ Hid (hxV b ≠ 16)))) (fun _ kv _ => 4 - (intOf kv).toNat)
                      case atStart => exact ⟨rfl, .inl ⟨rfl, rfl⟩⟩
                      case round =>
                        obtain ⟨hwx, hrel⟩ := hrel
                        subst hwx
                        rcases hrel with ⟨rfl, rfl⟩ | ⟨a, hl3, ha0, rfl, rfl, ha⟩ | ⟨a, b, hl4, ha0, hb0, rfl, rfl, ha, hb⟩
                        · by_cases hl3 : j + 2 < l.length
                          · have hg3 : decide ((l.length : Int) ≤ (j : Int) + 1 + 1) = false := decide_eq_false (by omega)
                            have hg3n : ¬ l.length ≤ j + 1 + 1 := by omega
                            have hx3 : ∀ w, (Instr.index 9 (.string ⟨l.toArray⟩) (.int .i64 ((j : Int) + 1 + 1))).run Tryd.prog w = .ok (.int .u8 ((l.getD (j + 2) 0).toNat : Nat)) w := fun w => run_ix l (j + 2) hl3 w
                            have hH := fun wx => rhex_any (l.getD (j + 2) 0) wx
                            obtain ⟨a, ha0⟩ : ∃ a, l.getD (j + 2) 0 = a := ⟨_, rfl⟩
                            rw [drop_cons l (j + 2) hl3, ha0] at hC
                            rw [ha0] at hx3 hH
                            replace ha0 : Hid _ := ha0
                            by_cases h16 : hxV a = 16
                            · have hE : hex2 (a :: l.drop (j + 2 + 1)) = (none, 2) := by unfold hex2; simp only []; rw [if_pos h16]
                              rw [hE] at hC
                              replace hC : Hid (([], j - p + 2, false) = R) := hC
                              have hH' : ∀ wx, Calls Tryd.prog 58 #[.int .u8 (a.toNat : Nat)] wx fun e w' => e = .returned (.int .i64 (-1)) ∧ w' = wx := fun wx => by have := hH wx; rw [hxI_neg a h16] at this; exact this
                              clear h16 hE hH
                              generalize a.toNat = na at *
                              go_wp2_with (go_at_call 58; refine (hH' _).mono ?_; rintro e' w0 ⟨rfl, hw0⟩; rw [hw0]; clear hw0)
                              go_ret3
                              refine ⟨?_, kw.out⟩
                              rw [← hC.out]
                              unfold qdV
                              simp only []
                              rw [show p + (j - p + 2) = j + 1 + 1 by have := hpj.out; omega]
                              rfl
                            · have hv16 := hxV_lt a h16
                              have h16' : Hid (hxV a ≠ 16) := h16
                              have hneg : decide (((hxV a : Nat) : Int) < 0) = false := decide_eq_false (by omega)
                              obtain ⟨x, hx0⟩ : ∃ x, hxV a = x := ⟨_, rfl⟩
                              have hH' : ∀ wx, Calls Tryd.prog 58 #[.int .u8 (a.toNat : Nat)] wx fun e w' => e = .returned (.int .i64 (x : Nat)) ∧ w' = wx := fun wx => by have := hH wx; rw [hxI_pos a h16, hx0] at this; exact this
                              rw [hx0] at hneg hv16
                              replace hC : Hid _ := hC
                              replace hx0 : Hid _ := hx0
                              clear h16 hH
                              generalize a.toNat = na at *
                              go_wp2_with (go_at_call 58; refine (hH' _).mono ?_; rintro e' w0 ⟨rfl, hw0⟩; rw [hw0]; clear hw0)
                              go_roundw
                              case rel => exact ⟨by first | rfl | trivial, .inr (.inl ⟨a, hl3, ha0.out, by rw [hx0.out], rfl, h16'⟩)⟩
                              case measure => simp [intOf]
                          · have hg3 : decide ((l.length : Int) ≤ (j : Int) + 1 + 1) = true := decide_eq_true (by omega)
                            have hg3n : l.length ≤ j + 1 + 1 := by omega
                            rw [List.drop_eq_nil_of_le (by omega)] at hC
                            replace hC : Hid (([], j - p + 2, false) = R) := hC
                            go_wp2_with fail
                            go_ret3
                            refine ⟨?_, kw.out⟩
                            rw [← hC.out]
                            unfold qdV
                            simp only []
                            rw [show p + (j - p + 2) = l.length by have := hpj.out; have := HL2.out; omega]
                            rfl
                        · rw [drop_cons l (j + 2) hl3, ha0, show j + 2 + 1 = j + 3 by omega] at hC
                          by_cases hl4 : j + 3 < l.length
                          · have hg3 : decide ((l.length : Int) ≤ (j : Int) + 1 + 2) = false := decide_eq_false (by omega)
                            have hg3n : ¬ l.length ≤ j + 1 + 2 := by omega
                            have hx3 : ∀ w, (Instr.index 9 (.string ⟨l.toArray⟩) (.int .i64 ((j : Int) + 1 + 2))).run Tryd.prog w = .ok (.int .u8 ((l.getD (j + 3) 0).toNat : Nat)) w := fun w => run_ix l (j + 3) hl4 w
                            have hH := fun wx => rhex_any (l.getD (j + 3) 0) wx
                            obtain ⟨b, hb0⟩ : ∃ b, l.getD (j + 3) 0 = b := ⟨_, rfl⟩
                            rw [drop_cons l (j + 3) hl4, hb0] at hC
                            rw [hb0] at hx3 hH
                            replace hb0 : Hid _ := hb0
                            replace ha0 : Hid _ := ha0
                            by_cases h16 : hxV b = 16
                            · have hE : hex2 (a :: b :: l.drop (j + 3 + 1)) = (none, 3) := by unfold hex2; simp only []; rw [if_neg ha.out, if_pos h16]
                              rw [hE] at hC
                              replace hC : Hid (([], j - p + 3, false) = R) := hC
                              have hH' : ∀ wx, Calls Tryd.prog 58 #[.int .u8 (b.toNat : Nat)] wx fun e w' => e = .returned (.int .i64 (-1)) ∧ w' = wx := fun wx => by have := hH wx; rw [hxI_neg b h16] at this; exact this
                              clear h16 hE hH
                              generalize b.toNat = nb at *
                              go_wp2_with (go_at_call 58; refine (hH' _).mono ?_; rintro e' w0 ⟨rfl, hw0⟩; rw [hw0]; clear hw0)
                              go_ret3
                              refine ⟨?_, kw.out⟩
                              rw [← hC.out]
                              unfold qdV
                              simp only []
                              rw [show p + (j - p + 3) = j + 1 + 2 by have := hpj.out; omega]
                              rfl
                            · have hv16 := hxV_lt b h16
                              have hva := hxV_lt a ha.out
                              have h16' : Hid (hxV b ≠ 16) := h16
                              have hneg : decide (((hxV b : Nat) : Int) < 0) = false := decide_eq_false (by omega)
                              obtain ⟨x, hx0⟩ : ∃ x, hxV b = x := ⟨_, rfl⟩
                              obtain ⟨z, hz0⟩ : ∃ z, hxV a = z := ⟨_, rfl⟩
                              have hH' : ∀ wx, Calls Tryd.prog 58 #[.int .u8 (b.toNat : Nat)] wx fun e w' => e = .returned (.int .i64 (x : Nat)) ∧ w' = wx := fun wx => by have := hH wx; rw [hxI_pos b h16, hx0] at this; exact this
                              rw [hx0] at hneg hv16
                              rw [hz0] at hva ⊢
                              replace hC : Hid _ := hC
                              replace hx0 : Hid _ := hx0
                              replace hz0 : Hid _ := hz0
                              clear h16 hH
                              generalize b.toNat = nb at *
                              go_wp2_with (go_at_call 58; refine (hH' _).mono ?_; rintro e' w0 ⟨rfl, hw0⟩; rw [hw0]; clear hw0)
                              go_roundw
                              case rel => exact ⟨by first | rfl | trivial, .inr (.inr ⟨a, b, hl4, ha0.out, hb0.out, by rw [hx0.out, hz0.out], rfl, ha, h16'⟩)⟩
                              case measure => simp [intOf]
                          · have hg3 : decide ((l.length : Int) ≤ (j : Int) + 1 + 2) = true := decide_eq_true (by omega)
                            have hg3n : l.length ≤ j + 1 + 2 := by omega
                            rw [List.drop_eq_nil_of_le (by omega)] at hC
                            have hE : hex2 [a] = (none, 3) := by unfold hex2; simp only []; rw [if_neg ha.out]
                            rw [hE] at hC
                            replace hC : Hid (([], j - p + 3, false) = R) := hC
                            go_wp2_with fail
                            go_ret3
                            refine ⟨?_, kw.out⟩
                            rw [← hC.out]
                            unfold qdV
                            simp only []
                            rw [show p + (j - p + 3) = l.length by have := hpj.out; omega]
                            rfl
                        · rw [drop_cons l (j + 2) (by omega), ha0, show j + 2 + 1 = j + 3 by omega, drop_cons l (j + 3) hl4, hb0] at hC
                          have hE : hex2 (a :: b :: l.drop (j + 3 + 1)) = (some (UInt8.ofNat (16 * hxV a + hxV b)), 4) := by unfold hex2; simp only []; rw [if_neg ha.out, if_neg hb.out]
                          rw [hE] at hC
                          have hlt := hxV_lt b hb.out
                          have hlta := hxV_lt a ha.out
                          have hw := ub_sixteen (hxV a) (hxV b) hlta hlt
                          rw [show ((hxV a : Nat) : Int) * 16 = 16 * (hxV a : Nat) by omega] at hw
                          have HL4 : Hid (j + 3 < l.length) := hl4
                          have HU2 : Hid (uq (l.drop (j + 4)) (t ++ [UInt8.ofNat (16 * hxV a + hxV b)]) (j + 4 - p) = R) := by
                            unfold Hid; rw [← hC]; simp only []; rw [show j - p + 4 = j + 4 - p by have := hpj.out; omega]
                          replace ha0 : Hid _ := ha0
                          replace hb0 : Hid _ := hb0
                          clear hC hE hl4
                          obtain ⟨cc, hcc⟩ : ∃ cc, UInt8.ofNat (16 * hxV a + hxV b) = cc := ⟨_, rfl⟩
                          rw [hcc] at hw HU2
                          clear hcc
                          generalize hxV a = xa at *
                          generalize hxV b = xb at *
                          obtain ⟨w6, hw6, k6, t6, s6⟩ := boxed wr #[.int .u8 (cc.toNat : Nat)] 5
                          go_wp2_with (first
                            | rw [hw]
                            | rw [hw6]
                            | (at_builtin; refine wpList_appG Tryd.underlying58 i5 (by kernel_rfl) (by decide) (by decide) w.heap.size _ rfl _ _ rfl t.length (Lib.byteCells t) [.int .u8 (cc.toNat : Nat)] _ rfl (own_keep hB.out k6) (Keep.trans kw.out k6).le ⟨wr.heap.size, 0, none⟩ 1 rfl rfl (at1 t6) (by simp [Value.oneCell']) (by have := htl.out; omega) ?_; intro v7 w7 hO7 hg7
                               have kf : Hid (Keep w w7) := keep_grown (Keep.trans kw.out k6) (own_keep hB.out k6) hg7
                               clear hg7))
                          go_roundw
                          case rel => exact ⟨j + 4, t ++ [cc], by go_num, by have := hpj.out; omega, by have := HL4.out; omega, by rw [List.length_append, List.length_singleton]; have := htl.out; omega, OwnB.more (c := cc) hO7, kf.out, HU2⟩
                          case measure => have := HL4.out; simp [intOf]; omega
                    · have f120 := ub_no d 120 120 rfl d120
                      have hE : esc (d :: l.drop (j + 1 + 1)) = (none, 1) := by
                        unfold esc; simp only []
                        rw [if_neg (fun h => h.elim d34 d92), if_neg d110, if_neg d116, if_neg d120]
                      rw [hE] at hC
                      replace hC : Hid (([], j - p + 1, false) = R) := hC
                      clear d34 d92 d110 d116 d120 hE
                      generalize d.toNat = n2 at *
                      go_wp2_with fail
                      go_ret3
                      refine ⟨?_, kw.out⟩
                      rw [← hC.out]
                      unfold qdV
                      simp only []
                      rw [show p + (j - p + 1) = j + 1 by have := hpj.out; omega]
                      rfl
          · have hg2 : decide ((l.length : Int) ≤ (j : Int) + 1) = true := decide_eq_true (by omega)
            have hg2n : l.length ≤ j + 1 := by omega
            rw [List.drop_eq_nil_of_le (by omega)] at hC
            replace hC : Hid (([], j - p + 1, false) = R) := hC
            go_wp2_with fail
            go_ret3
            refine ⟨?_, kw.out⟩
            rw [← hC.out]
            unfold qdV
            simp only []
            rw [show p + (j - p + 1) = l.length by have := hpj.out; have := HL.out; omega]
            rfl
        · rw [if_neg c92] at hC
          have n92 : (((l.getD j 0).toNat : Int) != 92) = true := by rw [bne, ub_no _ 92 92 rfl c92]; rfl
          have hq32 := ub_lt32 (l.getD j 0)
          have hq127 : (((l.getD j 0).toNat : Int) == 127) = decide (l.getD j 0 = 127) := by rw [← ub_eq _ 127]; rfl
          replace hB : Hid _ := hB
          replace kw : Hid _ := kw
          by_cases c4 : (l.getD j 0).toNat < 32 ∨ l.getD j 0 = 127
          · rw [if_pos c4] at hC
            replace hC : Hid _ := hC
            have hor : Hid ((decide ((l.getD j 0).toNat < 32) || decide (l.getD j 0 = 127)) = true) := by unfold Hid; simp; exact c4
            clear c34 c92 c4
            generalize decide ((l.getD j 0).toNat < 32) = b1 at *
            generalize decide (l.getD j 0 = 127) = b2 at *
            generalize (l.getD j 0).toNat = n1 at *
            cases b1 <;> cases b2 <;> first
              | (exact absurd hor.out (by decide))
              | (go_wp2_with fail
                 go_ret3
                 refine ⟨?_, kw.out⟩
                 rw [← hC.out]
                 unfold qdV
                 simp only []
                 rw [show p + (j - p) = j by have := hpj.out; omega]
                 rfl)
              | (go_wp2_with fail
                 done)
          · rw [if_neg c4] at hC
            have b1 : decide ((l.getD j 0).toNat < 32) = false := decide_eq_false (fun h => c4 (.inl h))
            have b2 : decide (l.getD j 0 = 127) = false := decide_eq_false (fun h => c4 (.inr h))
            rw [b1] at hq32
            rw [b2] at hq127
            obtain ⟨c, hc⟩ : ∃ c, l.getD j 0 = c := ⟨_, rfl⟩
            rw [hc] at hx hC e34 n92 hq32 hq127
            have HU2 : Hid (uq (l.drop (j + 1)) (t ++ [c]) (j + 1 - p) = R) := by
              unfold Hid; rw [← hC, show j - p + 1 = j + 1 - p by have := hpj.out; omega]
            clear c34 c92 c4 b1 b2 hc hC
            obtain ⟨w6, hw6, k6, t6, s6⟩ := boxed wr #[.int .u8 (c.toNat : Nat)] 5
            go_wp2_with (first
              | rw [hw6]
              | (at_builtin; refine wpList_appG Tryd.underlying58 i5 (by kernel_rfl) (by decide) (by decide) w.heap.size _ rfl _ _ rfl t.length (Lib.byteCells t) [.int .u8 (c.toNat : Nat)] _ rfl (own_keep hB.out k6) (Keep.trans kw.out k6).le ⟨wr.heap.size, 0, none⟩ 1 rfl rfl (at1 t6) (by simp [Value.oneCell']) (by have := htl.out; omega) ?_; intro v7 w7 hO7 hg7
                 have kf : Hid (Keep w w7) := keep_grown (Keep.trans kw.out k6) (own_keep hB.out k6) hg7
                 clear hg7))
            go_roundw
            case rel => exact ⟨j + 1, t ++ [c], by go_num, by have := hpj.out; omega, by have := HL.out; omega, by rw [List.length_append, List.length_singleton]; have := htl.out; omega, OwnB.more (c := c) (hO7), kf.out, HU2⟩
            case measure => have := HL.out; simp [intOf]; omega
    · obtain rfl : j = l.length := by omega
      have hgc : ¬ (l.length : Int) < (l.length : Int) := by omega
      rw [List.drop_length, uq_nil] at hC
      replace hC : Hid _ := hC
      replace hB : Hid _ := hB
      replace kw : Hid _ := kw
      go_wp2_with fail
      go_ret3
      refine ⟨?_, kw.out⟩
      rw [← hC.out]
      unfold qdV
      simp only []
      rw [show p + (l.length - p) = l.length by have := hpj.out; omega]
      rfl
end Go.Proofs.YtonfjmibnnioiaaDoor
