import Derived.Test.YtonfjmibnnioiaaDoorY2
set_option linter.unusedVariables false
set_option linter.unusedSimpArgs false
namespace Go.Proofs.YtonfjmibnnioiaaDoor
open Go.RowKit Go.Shelf
theorem run_sub (l : List UInt8) (f i : Nat) (h : f ≤ i) (h2 : i ≤ l.length) (w : World) : (Instr.slice 9 (.string ⟨l.toArray⟩) (some (.int .i64 (f : Int))) (some (.int .i64 (i : Int))) none).run Tryd.prog w = .ok (.string ⟨((l.drop f).take (i - f)).toArray⟩) w := by
  rw [run_slice_string w 9 _ .i64 .i64 (f : Int) (i : Int) Tryd.underlying9 (by omega) (by omega) (by rw [sz_mk]; omega)]
  rw [ext_mk, List.drop_take]; rfl
theorem getD_drop (l : List UInt8) (f j : Nat) : (l.drop f).getD j 0 = l.getD (f + j) 0 := by simp [List.getD]
theorem NoNL_step {l : List UInt8} {i : Nat} (h : NoNL l i) (hc : isNL (l.getD i 0) = false) : NoNL l (i + 1) := fun j hj => by
  by_cases e : j = i
  · rw [e]; exact hc
  · exact h j (by omega)
/-- The line that ends at i. -/
theorem line_end (l : List UInt8) (f i : Nat) (hfi : f ≤ i) (hi : i < l.length) (hN : NoNL (l.drop f) (i - f)) (hc : isNL (l.getD i 0) = true) : (l.drop f).take (i - f) = lnT (l.drop f) ∧ (lnT (l.drop f)).length = i - f := by
  have h1 : (lnT (l.drop f)).length = i - f := lnT_at _ _ (by rw [List.length_drop]; omega) hN (by rw [getD_drop, show f + (i - f) = i by omega]; exact hc)
  exact ⟨by rw [← h1, ← lnT_take], h1⟩
theorem lnE_at (l : List UInt8) (f i : Nat) (hfi : f ≤ i) (hi : i < l.length) (h1 : (lnT (l.drop f)).length = i - f) : lnE (l.drop f) = if l.getD i 0 = 13 ∧ i + 1 < l.length ∧ l.getD (i + 1) 0 = 10 then 2 else 1 := by
  unfold lnE
  rw [h1, List.drop_drop, show f + (i - f) = i by omega, drop_cons l i hi, if_neg (by simp)]
  by_cases h2 : i + 1 < l.length
  · rw [drop_cons l (i + 1) h2]
    rw [show ∀ (a b : UInt8) (r : List UInt8), (a :: b :: r).take 2 = [a, b] from fun _ _ _ => rfl]
    simp only [List.cons.injEq, and_true, h2, true_and]
  · rw [List.drop_eq_nil_of_le (by omega)]
    rw [if_neg (by simp), if_neg (fun h => h2 h.2.1)]
theorem ne_all {l : List UInt8} {f : Nat} (hf : f < l.length) : l.drop f ≠ [] := fun e => by
  have := congrArg List.length e
  rw [List.length_drop, List.length_nil] at this
  omega
theorem isNL_ne (c : UInt8) (h : isNL c = false) : ((c.toNat : Int) != 10) = true ∧ ((c.toNat : Int) != 13) = true := by
  unfold isNL at h
  rw [Bool.or_eq_false_iff, beq_eq_false_iff_ne, beq_eq_false_iff_ne] at h
  exact ⟨by rw [bne, ub_no c 10 10 rfl h.1]; rfl, by rw [bne, ub_no c 13 13 rfl h.2]; rfl⟩
/-- One line more. -/
theorem rw_next {acc : List Rw'} {R : List (Nat × Nat × List UInt8)} {l : List UInt8} {f n : Nat} {t : List UInt8} (H : acc ++ rwA acc.length f (l.drop f) = R) (hf : f < l.length) (ht : lnT (l.drop f) = t) (hn : f + ((lnT (l.drop f)).length + lnE (l.drop f)) = n) : (acc ++ [(acc.length + 1, f, t)]) ++ rwA (acc ++ [(acc.length + 1, f, t)]).length n (l.drop n) = R := by
  rw [rwA_cons _ _ _ (ne_all hf), List.drop_drop, hn, ht] at H
  rw [← H, List.length_append, List.length_singleton]; simp
set_option maxRecDepth 100000 in
set_option maxHeartbeats 4000000 in
theorem rRows_any (l : List UInt8) (w : World) (hs : l.length ≤ 4294967000) : Calls Tryd.prog 13 #[.string ⟨l.toArray⟩] w fun e w' => ∃ v, e = .returned v ∧ OwnR w.heap.size v (rwA 0 0 l) w' ∧ Keep w w' := by
  obtain ⟨R, hR⟩ : ∃ R, rwA 0 0 l = R := ⟨_, rfl⟩
  rw [hR]
  have hsz := sz_mk l
  have HR : Hid ([] ++ rwA 0 0 (l.drop 0) = R) := by unfold Hid; rw [List.drop_zero]; exact hR
  clear hR
  go_enter Tryd.func13, Tryd.ntmps13
  go_wp2_with fail
  go_loopw [3, 4, 5] (fun vl fv iv wr => ∃ (f i : Nat) (acc : List Rw'), fv = .int .i64 f ∧ iv = .int .i64 i ∧ f ≤ i ∧ i ≤ l.length ∧ acc.length ≤ f ∧ Keep w wr ∧ OwnR w.heap.size vl acc wr ∧ Hid (NoNL (l.drop f) (i - f)) ∧ Hid (acc ++ rwA acc.length f (l.drop f) = R)) (fun _ _ iv _ => l.length - (intOf iv).toNat)
  case atStart => exact ⟨0, 0, [], rfl, rfl, by omega, by omega, by simp, Keep.refl w, own_nil _ _ _ _, fun j hj => by omega, HR⟩
  case round =>
    obtain ⟨f, i, acc, rfl, rfl, hfi, hi, hac, kw, hO, HN, H⟩ := hrel
    clear HR
    obtain ⟨av, cv, rfl, hcv⟩ := own_len hO
    have hab : acc.length ≤ 4294967000 := by omega
    have hfb : f ≤ 4294967000 := by omega
    have hib : i ≤ 4294967000 := by omega
    replace hO : Hid _ := hO
    replace kw : Hid _ := kw
    replace hac : Hid _ := hac
    by_cases hlt : i < l.length
    · have hx := run_ix l i hlt
      have hltc : decide ((i : Int) < (l.length : Int)) = true := decide_eq_true (by omega)
      cases hnl : isNL (l.getD i 0) with
      | false =>
        obtain ⟨n1, n2⟩ := isNL_ne _ hnl
        have HN2 : Hid (NoNL (l.drop f) (i + 1 - f)) := by
          unfold Hid
          rw [show i + 1 - f = (i - f) + 1 by omega]
          exact NoNL_step HN.out (by rw [getD_drop, show f + (i - f) = i by omega]; exact hnl)
        have HF : Hid (f ≤ i ∧ i < l.length) := ⟨hfi, hlt⟩
        clear hnl  hfi
        generalize (l.getD i 0).toNat = n at *
        go_wp2_with fail
        go_roundw
        case rel => exact ⟨f, i + 1, acc, rfl, by go_num, by have := HF.out; omega, by have := HF.out; omega, hac.out, kw.out, hO.out, HN2, H⟩
        case measure => have := HF.out; simp [intOf]; omega
      | true =>
        obtain ⟨hT1, hT2⟩ := line_end l f i hfi hlt HN.out hnl
        have hE := lnE_at l f i hfi hlt hT2
        have hsl := run_sub l f i hfi (by omega)
        rw [hT1] at hsl
        obtain ⟨t, ht⟩ : ∃ t, lnT (l.drop f) = t := ⟨_, rfl⟩
        have Hnx := fun n hn => rw_next (n := n) H.out (by omega) ht hn
        rw [hT2, hE] at Hnx
        rw [ht] at hsl
        obtain ⟨w6, hw6, k6, t6, s6⟩ := boxed wr #[.int .i64 ((acc.length : Int) + 1), .int .i64 (f : Nat), .string ⟨t.toArray⟩] 46
        replace k6 : Hid _ := k6
        have HF : Hid (f ≤ i ∧ i < l.length ∧ acc.length ≤ f) := ⟨hfi, hlt, hac.out⟩
        replace Hnx : Hid _ := Hnx
        have hst := sz_mk t
        by_cases c10 : l.getD i 0 = 10
        · have n1 : (((l.getD i 0).toNat : Int) != 10) = false := by rw [bne, ub_is _ 10 10 rfl c10]; rfl
          have e13 := ub_no (l.getD i 0) 13 13 rfl (by rw [c10]; decide)
          have HX : Hid ((acc ++ [(acc.length + 1, f, t)]) ++ rwA (acc ++ [(acc.length + 1, f, t)]).length (i + 1) (l.drop (i + 1)) = R) := Hnx.out (i + 1) (by rw [if_neg (fun h => by rw [c10] at h; exact absurd h.1 (by decide))]; have := HF.out; omega)
          clear c10 hnl hT1 hT2 hE ht  hfi Hnx
          generalize (l.getD i 0).toNat = n at *
          go_wp2_with (first
            | rw [hsl]
            | rw [hw6]
            | (at_builtin; refine wpList_appG Tryd.underlying24 i46 (by kernel_rfl) (by decide) (by decide) w.heap.size _ rfl _ _ rfl acc.length (RvL acc) [.int .i64 ((acc.length : Int) + 1), .int .i64 (f : Nat), .string ⟨t.toArray⟩] _ rfl (own_keep hO.out k6.out) (Keep.trans kw.out k6.out).le ⟨wr.heap.size, 0, none⟩ 1 rfl rfl (at3 t6) (one3 rfl rfl rfl) (by omega) ?_; intro v7 w7 hO7 hg7
               have kf : Hid (Keep w w7) := keep_grown (Keep.trans kw.out k6.out) (own_keep hO.out k6.out) hg7
               have hOf : Hid (OwnR w.heap.size v7 (acc ++ [(acc.length + 1, f, t)]) w7) := by
                 show World.ownsRow _ _ _ _ _ _ _
                 rw [RvL_app, List.length_append, List.length_singleton]; exact hO7
               obtain ⟨av7, cv7, rfl, hcv7⟩ := own_len hO7
               clear hO7 hg7))
          go_roundw
          case rel => exact ⟨i + 1, i + 1, acc ++ [(acc.length + 1, f, t)], by go_num, by go_num, by omega, by have := HF.out; omega, by rw [List.length_append, List.length_singleton]; have := HF.out; omega, kf.out, hOf.out, fun j hj => by omega, HX⟩
          case measure => have := HF.out; simp [intOf]; omega
        · have c13 : l.getD i 0 = 13 := by
            unfold isNL at hnl
            rw [Bool.or_eq_true, beq_iff_eq, beq_iff_eq] at hnl
            exact hnl.resolve_left c10
          have n1 : (((l.getD i 0).toNat : Int) != 10) = true := by rw [bne, ub_no _ 10 10 rfl c10]; rfl
          have n2 : (((l.getD i 0).toNat : Int) != 13) = false := by rw [bne, ub_is _ 13 13 rfl c13]; rfl
          have e13 := ub_is (l.getD i 0) 13 13 rfl c13
          by_cases hl2 : i + 1 < l.length
          · have hx2 : ∀ w, (Instr.index 9 (.string ⟨l.toArray⟩) (.int .i64 ((i : Int) + 1))).run Tryd.prog w = .ok (.int .u8 ((l.getD (i + 1) 0).toNat : Nat)) w := fun w => run_ix l (i + 1) hl2 w
            have hl2c : decide ((i : Int) + 1 < (l.length : Int)) = true := decide_eq_true (by omega)
            by_cases d10 : l.getD (i + 1) 0 = 10
            · have e10 := ub_is (l.getD (i + 1) 0) 10 10 rfl d10
              have HX : Hid ((acc ++ [(acc.length + 1, f, t)]) ++ rwA (acc ++ [(acc.length + 1, f, t)]).length (i + 2) (l.drop (i + 2)) = R) := Hnx.out (i + 2) (by rw [if_pos ⟨c13, hl2, d10⟩]; have := HF.out; omega)
              have HL : Hid (i + 1 < l.length) := hl2
              clear c10 c13 d10 hnl hT1 hT2 hE ht   hfi Hnx
              generalize (l.getD i 0).toNat = n at *
              generalize (l.getD (i + 1) 0).toNat = n' at *
              go_wp2_with (first
                | rw [hsl]
                | rw [hw6]
                | (at_builtin; refine wpList_appG Tryd.underlying24 i46 (by kernel_rfl) (by decide) (by decide) w.heap.size _ rfl _ _ rfl acc.length (RvL acc) [.int .i64 ((acc.length : Int) + 1), .int .i64 (f : Nat), .string ⟨t.toArray⟩] _ rfl (own_keep hO.out k6.out) (Keep.trans kw.out k6.out).le ⟨wr.heap.size, 0, none⟩ 1 rfl rfl (at3 t6) (one3 rfl rfl rfl) (by omega) ?_; intro v7 w7 hO7 hg7
                   have kf : Hid (Keep w w7) := keep_grown (Keep.trans kw.out k6.out) (own_keep hO.out k6.out) hg7
                   have hOf : Hid (OwnR w.heap.size v7 (acc ++ [(acc.length + 1, f, t)]) w7) := by
                     show World.ownsRow _ _ _ _ _ _ _
                     rw [RvL_app, List.length_append, List.length_singleton]; exact hO7
                   obtain ⟨av7, cv7, rfl, hcv7⟩ := own_len hO7
                   clear hO7 hg7))
              go_roundw
              case rel => exact ⟨i + 2, i + 2, acc ++ [(acc.length + 1, f, t)], by go_num, by go_num, by omega, by have := HL.out; omega, by rw [List.length_append, List.length_singleton]; have := HF.out; omega, kf.out, hOf.out, fun j hj => by omega, HX⟩
              case measure => have := HF.out; simp [intOf]; omega
            · have e10 := ub_no (l.getD (i + 1) 0) 10 10 rfl d10
              have HX : Hid ((acc ++ [(acc.length + 1, f, t)]) ++ rwA (acc ++ [(acc.length + 1, f, t)]).length (i + 1) (l.drop (i + 1)) = R) := Hnx.out (i + 1) (by rw [if_neg (fun h => d10 h.2.2)]; have := HF.out; omega)
              have HL : Hid (i + 1 < l.length) := hl2
              clear c10 c13 d10 hnl hT1 hT2 hE ht   hfi Hnx
              generalize (l.getD i 0).toNat = n at *
              generalize (l.getD (i + 1) 0).toNat = n' at *
              go_wp2_with (first
                | rw [hsl]
                | rw [hw6]
                | (at_builtin; refine wpList_appG Tryd.underlying24 i46 (by kernel_rfl) (by decide) (by decide) w.heap.size _ rfl _ _ rfl acc.length (RvL acc) [.int .i64 ((acc.length : Int) + 1), .int .i64 (f : Nat), .string ⟨t.toArray⟩] _ rfl (own_keep hO.out k6.out) (Keep.trans kw.out k6.out).le ⟨wr.heap.size, 0, none⟩ 1 rfl rfl (at3 t6) (one3 rfl rfl rfl) (by omega) ?_; intro v7 w7 hO7 hg7
                   have kf : Hid (Keep w w7) := keep_grown (Keep.trans kw.out k6.out) (own_keep hO.out k6.out) hg7
                   have hOf : Hid (OwnR w.heap.size v7 (acc ++ [(acc.length + 1, f, t)]) w7) := by
                     show World.ownsRow _ _ _ _ _ _ _
                     rw [RvL_app, List.length_append, List.length_singleton]; exact hO7
                   obtain ⟨av7, cv7, rfl, hcv7⟩ := own_len hO7
                   clear hO7 hg7))
              go_roundw
              case rel => exact ⟨i + 1, i + 1, acc ++ [(acc.length + 1, f, t)], by go_num, by go_num, by omega, by have := HL.out; omega, by rw [List.length_append, List.length_singleton]; have := HF.out; omega, kf.out, hOf.out, fun j hj => by omega, HX⟩
              case measure => have := HF.out; simp [intOf]; omega
          · have hl2c : decide ((i : Int) + 1 < (l.length : Int)) = false := decide_eq_false (by omega)
            have HX : Hid ((acc ++ [(acc.length + 1, f, t)]) ++ rwA (acc ++ [(acc.length + 1, f, t)]).length (i + 1) (l.drop (i + 1)) = R) := Hnx.out (i + 1) (by rw [if_neg (fun h => hl2 h.2.1)]; have := HF.out; omega)
            clear c10 c13 hnl hT1 hT2 hE ht   hfi Hnx
            generalize (l.getD i 0).toNat = n at *
            go_wp2_with (first
              | rw [hsl]
              | rw [hw6]
              | (at_builtin; refine wpList_appG Tryd.underlying24 i46 (by kernel_rfl) (by decide) (by decide) w.heap.size _ rfl _ _ rfl acc.length (RvL acc) [.int .i64 ((acc.length : Int) + 1), .int .i64 (f : Nat), .string ⟨t.toArray⟩] _ rfl (own_keep hO.out k6.out) (Keep.trans kw.out k6.out).le ⟨wr.heap.size, 0, none⟩ 1 rfl rfl (at3 t6) (one3 rfl rfl rfl) (by omega) ?_; intro v7 w7 hO7 hg7
                 have kf : Hid (Keep w w7) := keep_grown (Keep.trans kw.out k6.out) (own_keep hO.out k6.out) hg7
                 have hOf : Hid (OwnR w.heap.size v7 (acc ++ [(acc.length + 1, f, t)]) w7) := by
                   show World.ownsRow _ _ _ _ _ _ _
                   rw [RvL_app, List.length_append, List.length_singleton]; exact hO7
                 obtain ⟨av7, cv7, rfl, hcv7⟩ := own_len hO7
                 clear hO7 hg7))
            go_roundw
            case rel => exact ⟨i + 1, i + 1, acc ++ [(acc.length + 1, f, t)], by go_num, by go_num, by omega, by have := HF.out; omega, by rw [List.length_append, List.length_singleton]; have := HF.out; omega, kf.out, hOf.out, fun j hj => by omega, HX⟩
            case measure => have := HF.out; simp [intOf]; omega
    · have hltc : ¬ (i : Int) < (l.length : Int) := by omega
      obtain rfl : i = l.length := by omega
      by_cases hf : f < l.length
      · have hfc : decide ((f : Int) < (l.length : Int)) = true := decide_eq_true (by omega)
        have hsl := run_from l f hfi
        have hT : lnT (l.drop f) = l.drop f := by
          have h1 := lnT_of (l.drop f) (l.length - f) (by rw [List.length_drop]; omega) HN.out
          rw [lnT_take (l.drop f), List.take_of_length_le (by rw [List.length_drop]; omega)]
        have hE : lnE (l.drop f) = 0 := by unfold lnE; rw [hT, List.drop_length, if_pos rfl]
        obtain ⟨t, ht⟩ : ∃ t, l.drop f = t := ⟨_, rfl⟩
        have HX := rw_next (n := l.length) H.out hf (hT.trans ht) (by rw [hT, hE, List.length_drop]; omega)
        rw [List.drop_length, rwA_nil, List.append_nil] at HX
        rw [ht] at hsl
        replace HX : Hid _ := HX
        have hst := sz_mk t
        obtain ⟨w6, hw6, k6, t6, s6⟩ := boxed wr #[.int .i64 ((acc.length : Int) + 1), .int .i64 (f : Nat), .string ⟨t.toArray⟩] 46
        replace k6 : Hid _ := k6
        clear hT hE ht H HN
        go_wp2_with (first
          | rw [hsl]
          | rw [hw6]
          | (at_builtin; refine wpList_appG Tryd.underlying24 i46 (by kernel_rfl) (by decide) (by decide) w.heap.size _ rfl _ _ rfl acc.length (RvL acc) [.int .i64 ((acc.length : Int) + 1), .int .i64 (f : Nat), .string ⟨t.toArray⟩] _ rfl (own_keep hO.out k6.out) (Keep.trans kw.out k6.out).le ⟨wr.heap.size, 0, none⟩ 1 rfl rfl (at3 t6) (one3 rfl rfl rfl) (by omega) ?_; intro v7 w7 hO7 hg7
             have kf : Hid (Keep w w7) := keep_grown (Keep.trans kw.out k6.out) (own_keep hO.out k6.out) hg7
             have hOf : Hid (OwnR w.heap.size v7 (acc ++ [(acc.length + 1, f, t)]) w7) := by
               show World.ownsRow _ _ _ _ _ _ _
               rw [RvL_app, List.length_append, List.length_singleton]; exact hO7
             obtain ⟨av7, cv7, rfl, hcv7⟩ := own_len hO7
             clear hO7 hg7))
        go_ret
        exact ⟨_, rfl, by rw [← HX.out]; exact hOf.out, kf.out⟩
      · have hC := H.out
        rw [List.drop_eq_nil_of_le (by omega), rwA_nil, List.append_nil] at hC
        have hfc : ¬ (f : Int) < (l.length : Int) := by omega
        replace hC : Hid _ := hC
        clear H HN
        go_wp2_with fail
        go_ret
        exact ⟨_, rfl, by rw [← hC.out]; exact hO.out, kw.out⟩
end Go.Proofs.YtonfjmibnnioiaaDoor
