import Derived.Test.YtonfjmibnnioiaaDoorV3
set_option linter.unusedVariables false
set_option linter.unusedSimpArgs false
namespace Go.Proofs.YtonfjmibnnioiaaDoor
open Go.RowKit Go.Shelf
set_option maxRecDepth 100000 in
set_option maxHeartbeats 4000000 in
theorem Words_any (l : List UInt8) (w : World) (hT : Kt w) (hs : l.length ≤ 4294967000) : Calls Tryd.prog 14 #[.string ⟨l.toArray⟩] w fun e w' => ∃ v, e = .returned (.tuple #[v, .int .i64 ((ws 0 l []).2.1 : Nat), .int .i64 ((ws 0 l []).2.2 : Nat)]) ∧ OwnW w.heap.size v (ws 0 l []).1 w' ∧ Keep w w' := by
  obtain ⟨R, hR⟩ : ∃ R, ws 0 l [] = R := ⟨_, rfl⟩
  rw [hR]
  have hsz := sz_mk l
  have HR : Hid (ws 0 (l.drop 0) [] = R) := by unfold Hid; rw [List.drop_zero]; exact hR
  clear hR
  replace hT : Hid _ := hT
  go_enter Tryd.func14, Tryd.ntmps14
  go_wp2_with fail
  go_loopw [5, 6] (fun vl at' wr => ∃ (k : Nat) (acc : List Wd), at' = .int .i64 k ∧ k ≤ l.length ∧ acc.length ≤ k ∧ Keep w wr ∧ OwnW w.heap.size vl acc wr ∧ Hid (ws k (l.drop k) acc = R)) (fun _ at' _ => l.length - (intOf at').toNat)
  case atStart => exact ⟨0, [], rfl, by omega, by simp, Keep.refl w, own_nil _ _ _ _, HR⟩
  case round =>
    obtain ⟨k, acc, rfl, hk, hac, kw, hO, H⟩ := hrel
    clear HR
    have kw' : Hid (Keep w wr) := kw
    by_cases hlt : k < l.length
    · have hx := run_ix l k hlt
      have hsl := run_from l k hk
      have hd := drop_cons l k hlt
      have hC := H.out
      rw [hd, ws_cons] at hC
      have hltc : decide ((k : Int) < (l.length : Int)) = true := decide_eq_true (by omega)
      have HK : Hid (k < l.length) := hlt
      have hTr : Kt wr := Kt.keep hT.out kw
      have hKd := kindOf_any (l.getD k 0) wr hTr
      by_cases c1 : kd (l.getD k 0) = 1
      · rw [if_pos c1] at hC
        have e1 := kn_is _ 1 c1
        replace hC : Hid _ := hC
        replace hO : Hid _ := hO
        clear hlt c1 H hd hTr kw
        generalize kd (l.getD k 0) = kc at *
        generalize (l.getD k 0).toNat = n at *
        go_wp2_with (go_at_call 32; refine hKd.mono ?_; rintro e w0 ⟨rfl, hw0⟩; rw [hw0]; clear hw0)
        go_roundw
        case rel => exact ⟨k + 1, acc, by go_num, by have := HK.out; omega, by omega, kw'.out, hO.out, hC.out⟩
        case measure => have := HK.out; simp [intOf]; omega
      · rw [if_neg c1] at hC
        have e1 := kn_no _ 1 c1
        by_cases c9 : kd (l.getD k 0) = 9
        · rw [if_pos c9] at hC
          have e9 := kn_is _ 9 c9
          replace hC : Hid _ := hC
          replace hO : Hid _ := hO
          clear hlt c1 c9 H hd hTr kw
          generalize kd (l.getD k 0) = kc at *
          generalize (l.getD k 0).toNat = n at *
          go_wp2_with (go_at_call 32; refine hKd.mono ?_; rintro e w0 ⟨rfl, hw0⟩; rw [hw0]; clear hw0)
          go_ret3
          exact ⟨_, by rw [← hC.out]; rfl, by rw [← hC.out]; exact hO.out, kw'.out⟩
        · rw [if_neg c9] at hC
          have e9 := kn_no _ 9 c9
          have hF := firstWord_any (l.getD k 0) (l.drop (k + 1)) wr hTr (by rw [List.length_drop]; omega)
          rw [← hd] at hF hC
          cases hfw : fw (l.drop k) with
          | bad e n =>
            rw [hfw] at hC hF
            unfold fwV at hF
            simp only [] at hF hC
            obtain ⟨he, hn⟩ := fw_bad _ _ _ hfw
            rw [List.length_drop] at hn
            have hne : ((e : Int) != 0) = true := by rw [bne_iff_ne]; omega
            have hnb : n ≤ 4294967000 := by omega
            have hkb : k ≤ 4294967000 := by omega
            replace hC : Hid _ := hC
            replace hO : Hid _ := hO
            replace he : Hid _ := he
            replace hn : Hid _ := hn
            clear hlt c1 c9 H hd hTr kw hfw
            generalize kd (l.getD k 0) = kc at *
            generalize (l.getD k 0).toNat = nc at *
            go_wp2_with (first
              | rw [hsl]
              | (go_at_call 32; refine hKd.mono ?_; rintro e' w0 ⟨rfl, hw0⟩; rw [hw0]; clear hw0)
              | (go_at_call 33; refine hF.mono ?_; rintro e' w2 ⟨rfl, k2⟩))
            go_ret3
            exact ⟨_, by rw [← hC.out]; rfl, by rw [← hC.out]; exact own_nil _ _ _ _, (kw'.out.trans k2).alloc _⟩
          | ok kk t n =>
            rw [hfw] at hC hF
            unfold fwV at hF
            simp only [] at hF hC
            obtain ⟨h1n, hn, htn, hk256⟩ := fw_ok _ _ _ _ hfw
            rw [List.length_drop] at hn htn
            have hnb : n ≤ 4294967000 := by omega
            have hkb : k ≤ 4294967000 := by omega
            have hsz2 := sz_mk t
            by_cases hlong : 65536 < t.length
            · rw [if_pos hlong] at hC
              have hlc : decide ((65536 : Int) < (t.length : Int)) = true := decide_eq_true (by omega)
              replace hC : Hid _ := hC
              replace hO : Hid _ := hO
              clear hlt c1 c9 H hd hTr kw hfw hn htn hlong
              generalize kd (l.getD k 0) = kc at *
              generalize (l.getD k 0).toNat = nc at *
              go_wp2_with (first
                | rw [hsl]
                | rw [hw3]
                | (go_at_call 32; refine hKd.mono ?_; rintro e' w0 ⟨rfl, hw0⟩; rw [hw0]; clear hw0)
                | (go_at_call 33; refine hF.mono ?_; rintro e' w2 ⟨rfl, k2⟩
                   obtain ⟨w3, hw3, k3, t3, s3⟩ := boxed w2 #[.int .u8 (kk : Nat), .string ⟨t.toArray⟩, .int .i64 0] 44
                   obtain ⟨q0, q1, q2, f0, f1, f2⟩ := cells3 t3
                   have kf : Hid (Keep w w3) := (kw'.out.trans k2).trans k3))
              go_ret3
              exact ⟨_, by rw [← hC.out]; rfl, by rw [← hC.out]; exact own_nil _ _ _ _, kf.out.setCell (by have := k2.le; have := kw'.out.le; show _ ≤ w2.heap.size; omega) _⟩
            · rw [if_neg hlong, List.drop_drop] at hC
              have hlc : decide ((65536 : Int) < (t.length : Int)) = false := decide_eq_false (by omega)
              replace hC : Hid _ := hC
              replace hO : Hid _ := hO
              have Hn : Hid (n ≤ l.length - k) := hn
              clear hlt c1 c9 H hd hTr kw hfw hn htn hlong
              generalize kd (l.getD k 0) = kc at *
              generalize (l.getD k 0).toNat = nc at *
              go_wp2_with (first
                | rw [hsl]
                | rw [hw3]
                | rw [hw5]
                | rw [hw6]
                | (go_at_call 32; refine hKd.mono ?_; rintro e' w0 ⟨rfl, hw0⟩; rw [hw0]; clear hw0)
                | (go_at_call 33; refine hF.mono ?_; rintro e' w2 ⟨rfl, k2⟩
                   obtain ⟨w3, hw3, k3, t3, s3⟩ := boxed w2 #[.int .u8 (kk : Nat), .string ⟨t.toArray⟩, .int .i64 0] 44
                   obtain ⟨q0, q1, q2, f0, f1, f2⟩ := cells3 t3
                   obtain ⟨w5, hw5, k5, t5⟩ : ∃ w5, ((w3.setCell ⟨w2.heap.size, 2, none⟩ (.int .i64 0)).setCell ⟨w2.heap.size, 2, none⟩ (.int .i64 (k : Nat))) = w5 ∧ Keep wr w5 ∧ w5.heap[w2.heap.size]? = some (.cells #[.int .u8 (kk : Nat), .string ⟨t.toArray⟩, .int .i64 (k : Nat)] 44 (0, 0)) := by
                     refine ⟨_, rfl, ((k2.trans k3).setCell (by have := k2.le; show _ ≤ w2.heap.size; omega) _).setCell (by have := k2.le; show _ ≤ w2.heap.size; omega) _, ?_⟩
                     have a0 := heap_setCell_same w3 w2.heap.size 2 _ 44 (.int .i64 0) t3
                     have a1 := heap_setCell_same _ w2.heap.size 2 _ 44 (.int .i64 (k : Nat)) a0
                     simpa using a1
                   obtain ⟨p0, p1, p2, g0, g1, g2⟩ := cells3 t5
                   obtain ⟨w6, hw6, k6, t6, s6⟩ := boxed w5 #[.int .u8 (kk : Nat), .string ⟨t.toArray⟩, .int .i64 (k : Nat)] 44
                   have kx : Hid (Keep wr w6) := k5.trans k6)
                | (at_builtin; refine wpList_appG Tryd.underlying27 i44 (by kernel_rfl) (by decide) (by decide) w.heap.size _ rfl _ _ rfl acc.length (WvL acc) [.int .u8 (kk : Nat), .string ⟨t.toArray⟩, .int .i64 (k : Nat)] _ rfl (own_keep hO.out kx.out) (kw'.out.trans kx.out).le ⟨w5.heap.size, 0, none⟩ 1 rfl rfl (at3 t6) (one3 rfl rfl rfl) (by omega) ?_; intro v7 w7 hO7 hg7
                   have kf : Hid (Keep w w7) := keep_grown (kw'.out.trans kx.out) (own_keep hO.out kx.out) hg7
                   have hOf : Hid (OwnW w.heap.size v7 (acc ++ [(kk, t, k)]) w7) := by
                     show World.ownsRow _ _ _ _ _ _ _
                     rw [WvL_app, List.length_append, List.length_singleton]; exact hO7
                   clear hO7 hg7))
              go_roundw
              case rel => exact ⟨k + n, acc ++ [(kk, t, k)], by go_num, by have := HK.out; have := Hn.out; omega, by rw [List.length_append, List.length_singleton]; omega, kf.out, hOf.out, hC.out⟩
              case measure => have := HK.out; simp [intOf]; omega
    · have hltc : ¬ (k : Int) < (l.length : Int) := by omega
      obtain rfl : k = l.length := by omega
      have hC := H.out
      rw [List.drop_length, ws_nil] at hC
      replace hC : Hid _ := hC
      replace hO : Hid _ := hO
      clear H kw
      go_wp2_with fail
      go_ret3
      exact ⟨_, by rw [← hC.out]; rfl, by rw [← hC.out]; exact hO.out, kw'.out⟩
end Go.Proofs.YtonfjmibnnioiaaDoor
