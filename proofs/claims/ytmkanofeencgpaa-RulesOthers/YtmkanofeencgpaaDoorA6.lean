import Derived.Test.YtmkanofeencgpaaDoorA5
import Derived.Test.YtmkanofeencgpaaDoorV3
import Derived.Test.YtmkanofeencgpaaDoorYS6
import Derived.Deep.RegionLaw
set_option linter.unusedVariables false
set_option linter.unusedSimpArgs false
namespace Go.Proofs.YtmkanofeencgpaaDoor
open Go.RowKit Go.Shelf
attribute [local go_sem] run_store_func run_store_float
set_option maxRecDepth 100000 in
set_option maxHeartbeats 4000000 in
theorem law_others (nm : ByteArray) (fa : Option Addr) (fs : List ByteArray) (cf : Nat) (N : Int) (ba : Option Addr) (base : List Int) (cb : Nat) (ta : Option Addr) (ts : List (Int × List Nd)) (ct : Nat) (turn : Int) (oa : Option Addr) (out : List Bool) (co : Nat) (w : World) (hA : EnA w nm fa fs ba base ta ts) (hcb : base.length ≤ cb) (ho : RdO w oa out) (hol : out.length ≤ 140737488355328) :
    Calls Tryd.prog 7 #[.agg (ev nm fa fs.length cf N ba base.length cb ta ts.length ct), .int .i64 turn, .slice oa out.length co] w fun e w' => e = .returned (.bool true) ∧ Keep w w' := by
  obtain ⟨w1, hw1, k1, t1, s1⟩ := boxed w (ev nm fa fs.length cf N ba base.length cb ta ts.length ct) 26
  obtain ⟨z0, z1, z2, z3, z4⟩ := cells5 t1
  have hA1 := hA.keep k1
  have hB := begins_any w1 hA1.tb
  have hV := fun wx (q : Keep w1 wx) => Valid_any nm fa fs cf N ba base cb ta ts ct wx (hA1.keep q)
  by_cases hc : (chB nm fs N base ts).1 = 0
  · have hok := chB_ok hc
    obtain ⟨hcm, hme⟩ := chB_model hc
    rw [hok.1] at hV
    have hV' : ∀ wx, Keep w1 wx → Calls Tryd.prog 12 #[.agg (ev nm fa fs.length cf N ba base.length cb ta ts.length ct)] wx (fun e w' => e = .returned (.bool true) ∧ Keep wx w') := hV
    clear hV
    have hM := fun wx (q : Keep w1 wx) => Model_any nm fa fs cf N ba base cb ta ts ct wx hA1.ns (hA1.keep q).rf hA1.fz hA1.fl (hA1.keep q).er.rb hcb hA1.er.bl (hA1.keep q).er.rt hA1.er.tl
    have hM' : ∀ wx, Keep w1 wx → Calls Tryd.prog 23 #[.agg (ev nm fa fs.length cf N ba base.length cb ta ts.length ct)] wx (fun e w' => ∃ fa' cf' ba' cb' ta' ct', e = .returned (.tuple #[.agg (ev nm fa' fs.length cf' N ba' base.length cb' ta' ts.length ct'), .int .i64 0]) ∧ EnA w' nm fa' fs ba' base ta' (mdT ts) ∧ Keep wx w') := by
      intro wx q
      refine (hM wx q).mono fun e w' ⟨h, k⟩ => ?_
      rcases h with ⟨-, fa', cf', ba', cb', ta', ct', he, h1, h2, h3, h4, h5, h6⟩ | ⟨h, -⟩
      · refine ⟨fa', cf', ba', cb', ta', ct', he, ⟨(hA1.keep (q.trans k)).tb, hA.ns, h1, hA.fl, hA.fz, ⟨hA.er.bl, h3, hA.er.bb, by simpa [mdT] using hA.er.tl, ?_, h5⟩⟩, k⟩
        intro j hj
        obtain ⟨_, _, _, _, _, _, _, _, _, hl, _⟩ := h5 j hj
        have hj' : j < ts.length := by simpa [mdT] using hj
        have := hA.er.tn j hj'
        rw [mdT_at hj' (show ts.getD j (0, []) = ((ts.getD j (0, [])).1, (ts.getD j (0, [])).2) from rfl)]
        show (cnoN (ts.getD j (0, [])).2).length ≤ _
        have h3 := (trB_ok (hok.2.2.2.2.2.1 j hj')).2.2.1
        unfold cnoN
        rw [if_pos h3, cno_len h3]
        exact this
      · exact absurd hme h
    clear hM hme
    have hml : (mdT ts).length = ts.length := by simp [mdT]
    have hVm : ∀ fa' cf' ba' cb' ta' ct' wx, EnA wx nm fa' fs ba' base ta' (mdT ts) → Calls Tryd.prog 12 #[.agg (ev nm fa' fs.length cf' N ba' base.length cb' ta' ts.length ct')] wx (fun e w' => e = .returned (.bool true) ∧ Keep wx w') := by
      intro fa' cf' ba' cb' ta' ct' wx h
      have := Valid_any nm fa' fs cf' N ba' base cb' ta' (mdT ts) ct' wx h
      rw [hcm, hml] at this
      exact this
    have hCp := fun wx (q : Keep w1 wx) => rCopy_any nm fa fs cf N ba base cb ta ts ct wx (hA1.keep q).rf hA1.fl (hA1.keep q).er.rb hA1.er.bl (hA1.keep q).er.rt hA1.er.tl hA1.er.tn
    unfold ens at hCp
    clear hcm
    go_enter Tryd.func7, Tryd.ntmps7
    go_wp2_with (first
      | rw [hw1]
      | (go_at_call 19; refine hB.mono ?_; rintro e w2 ⟨rfl, k2⟩; obtain ⟨y0, y1, y2, y3, y4⟩ := cells5 (k2.at t1))
      | (go_at_call 12; refine (hV' w2 k2).mono ?_; rintro e w3 ⟨rfl, k3⟩; have k13 := k2.trans k3; obtain ⟨x0, x1, x2, x3, x4⟩ := cells5 (k13.at t1))
      | (go_at_call 23; refine (hM' w3 k13).mono ?_; rintro e w4 ⟨fa', cf', ba', cb', ta', ct', rfl, hE4, k4⟩
         obtain ⟨w5, hw5, k5, t5, s5⟩ := boxed w4 (ev nm fa' fs.length cf' N ba' base.length cb' ta' ts.length ct') 26
         obtain ⟨v0, v1, v2, v3, v4⟩ := cells5 t5
         have hVm5 := hVm fa' cf' ba' cb' ta' ct' w5 (hE4.keep k5)
         have k15 := k13.trans (k4.trans k5))
      | (go_at_call 12; refine hVm5.mono ?_; rintro e w6 ⟨rfl, k6⟩; have k16 := k15.trans k6; obtain ⟨m0, m1, m2, m3, m4⟩ := cells5 (k16.at t1); have hCp6 := hCp w6 k16)
      | (go_at_call 9; refine hCp6.mono ?_; rintro e w7 ⟨fb, cg, bb, cc, tb, cd, rfl, rf7, hcf7, rb7, hcb7, rt7, hct7, k7⟩
         obtain ⟨w8, hw8, k8, t8, s8⟩ := boxed w7 (ev nm fb fs.length cg N bb base.length cc tb ts.length cd) 26
         have k17 := k16.trans k7
         have k18 := k17.trans k8
         have fz4 := frozen_of_row _ _ 4 _ 26 t8
         obtain ⟨l0, l1, l2, l3, l4⟩ := cells5 t8
         obtain ⟨w9, hw9⟩ : ∃ x, w8.setCell ⟨w7.heap.size, 4, none⟩ (.slice none 0 0) = x := ⟨_, rfl⟩
         have k79 : Keep w7 w9 := by rw [← hw9]; exact k8.setCell (p := ⟨w7.heap.size, 4, none⟩) (Nat.le_refl _) _
         have t9 : w9.heap[w7.heap.size]? = some (.cells #[.string nm, .slice fb fs.length cg, .int .i64 N, .slice bb base.length cc, .slice none 0 0] 26 (0, 0)) := by
           have := heap_setCell_same w8 w7.heap.size 4 _ 26 (.slice none 0 0) t8
           rw [hw9] at this
           simpa using this
         have k19 := k17.trans k79
         obtain ⟨n0, n1, n2, n3, n4⟩ := cells5 (k19.at t1)))
    have HJ := FJt.start k79 (Nat.le_refl _) t9
    clear n0 n1 n2 n3 n4 l0 l1 l2 l3 l4 fz4 hw9 hw8 t8 t9 k8 s8 k18 m0 m1 m2 m3 m4 v0 v1 v2 v3 v4 x0 x1 x2 x3 x4 y0 y1 y2 y3 y4 hVm5 hCp6 hVm hM' hCp hV' hB hE4 hw5
    replace HJ : Hid _ := HJ
    have hE7 := hA1.keep k17
    have htl := hok.2.2.2.1
    obtain ⟨T, hT⟩ : ∃ T : Nat, IntKind.u64.wrap turn = (T : Int) := ⟨(turn % 18446744073709551616).toNat, by rw [IntKind.wrap_u64]; omega⟩
    obtain ⟨n, hn⟩ : ∃ n, ts.length = n := ⟨_, rfl⟩
    have HN : Hid (ts.length = n) := hn
    rw [hn] at htl
    rw [hn]
    go_loopw [11] (fun kv wr => ∃ (k : Nat) (v : Value) (K : List (Int × Option Addr × Nat × Nat)), k ≤ n ∧ kv = .int .u64 k ∧ FJt w7 w7.heap.size (.string nm) (.slice fb fs.length cg) (.int .i64 N) (.slice bb base.length cc) (chT ts (T % n) out k) wr v K) (fun kv _ => n - (intOf kv).toNat)
    case atStart => exact ⟨0, _, _, by omega, rfl, HJ.out⟩
    case round =>
      obtain ⟨k, v, K, hk, rfl, hI⟩ := hrel
      by_cases hkl : k < n
      · have hkc : (k : Int) < (n : Int) := by omega
        obtain ⟨R, hR⟩ : ∃ R, T % n = R := ⟨_, rfl⟩
        have hRl : R < n := by rw [← hR]; exact Nat.mod_lt _ (by omega)
        have hm1 : (T : Int).tmod (n : Int) = (R : Int) := by rw [← hR, Int.tmod_eq_emod_of_nonneg (by omega)]; rfl
        have hw2 : IntKind.u64.wrap ((k : Int) + (R : Int)) = (k : Int) + (R : Int) := by rw [IntKind.wrap_u64]; omega
        obtain ⟨q, hq⟩ : ∃ q, (k + R) % n = q := ⟨_, rfl⟩
        have hql : q < n := by rw [← hq]; exact Nat.mod_lt _ (by omega)
        have hm2 : ((k : Int) + (R : Int)).tmod (n : Int) = (q : Int) := by rw [← hq, Int.tmod_eq_emod_of_nonneg (by omega)]; rfl
        have HT : Hid (∀ b, out.getD q false = b → chT ts (T % n) out (k + 1) = if b = true then chT ts (T % n) out k else chT ts (T % n) out k ++ [ts.getD q (0, [])]) := by
          intro b hb
          rw [chT, hR, HN.out, hq, hb]
        rw [hR] at hI HT
        have k1r := k17.trans hI.kp
        have hor := (ho.keep k1).keep k1r
        obtain ⟨x0, x1, x2, x3, x4⟩ := cells5 (k1r.at t1)
        rw [hn] at x4
        by_cases hqo : q < out.length
        · have hqc : (q : Int) < (out.length : Int) := by omega
          obtain ⟨bo, oo, rfl, co⟩ := hor q hqo
          obtain ⟨b, hb⟩ : ∃ b, out.getD q false = b := ⟨_, rfl⟩
          rw [hb] at co
          have HT' := HT.out b hb
          cases b
          · rw [if_neg (by simp)] at HT'
            obtain ⟨b1, o1, na, nc, rfl, d0, d1, dn, dc, dl, df⟩ := hE7.er.rt q (by rw [hn]; exact hql)
            obtain ⟨Tq, hTq⟩ : ∃ Tq, ts.getD q (0, []) = Tq := ⟨_, rfl⟩
            rw [hTq] at d0 d1 dn dc dl df HT'
            obtain ⟨oq, L⟩ := Tq
            simp only at d0 d1 dn dc dl df
            replace HT' : Hid _ := HT'
            have e0 := hI.kp.cell d0
            have e1 := hI.kp.cell d1
            obtain ⟨g0, g1, g2, g3, g4⟩ := cells5 hI.bx
            have hgl : w7.heap.size + 1 ≤ wr.drew.heap.size := lt_of_at hI.bx
            have hKl : K.length + 1 ≤ 4398046511104 := by rw [hI.len]; have := chT_len ts R out k; omega
            have ga : (wr.alloc (Obj.cells #[Value.int IntKind.i64 oq, Value.slice na L.length nc] 43)).drew.cell? ⟨w7.heap.size, 4, none⟩ = some v := (((Keep.refl wr).alloc (Obj.cells #[Value.int IntKind.i64 oq, Value.slice na L.length nc] 43)).drew).cell g4
            clear d0 d1 hTq
            go_wp2_with fail
            go_region_law (refine step_appT (B := w7.heap.size + 1) rfl _ _ rfl K oq na L.length nc v (hI.own.keep (Keep.refl wr).drew) hgl hKl rfl rfl ?_; intro v7 wz hO7 g7 hv7; obtain ⟨a7, c7, rfl, hc7, -⟩ := hO7.shape; obtain ⟨hJ, b7⟩ := hI.step dc dn dl df hO7 g7; obtain ⟨_, _, _, _, r4⟩ := cells5 b7; have f4 := frozen_of_row _ _ 4 _ 26 b7; replace hJ : Hid _ := hJ; replace b7 : Hid _ := b7)
            all_goals
              go_wp2_with fail
              have hJ := hJ.out
              rw [show (K ++ [(oq, na, L.length, nc)]).length = K.length + 1 by simp, ← HT'.out, ← hR] at hJ
              exact ⟨⟨k + 1, _, _, by omega, by go_num, hJ⟩, by simp [intOf]; omega⟩
          · rw [if_pos rfl] at HT'
            replace HT' : Hid _ := HT'
            go_wp2_with fail
            exact ⟨⟨k + 1, _, _, by omega, by go_num, by rw [hR, HT'.out]; exact hI⟩, by simp [intOf]; omega⟩
        · have hqc : ¬ (q : Int) < (out.length : Int) := by omega
          have HT' := HT.out false (by simp [List.getD, List.getElem?_eq_none (show out.length ≤ q by omega)])
          rw [if_neg (by simp)] at HT'
          obtain ⟨b1, o1, na, nc, rfl, d0, d1, dn, dc, dl, df⟩ := hE7.er.rt q (by rw [hn]; exact hql)
          obtain ⟨Tq, hTq⟩ : ∃ Tq, ts.getD q (0, []) = Tq := ⟨_, rfl⟩
          rw [hTq] at d0 d1 dn dc dl df HT'
          obtain ⟨oq, L⟩ := Tq
          simp only at d0 d1 dn dc dl df
          replace HT' : Hid _ := HT'
          have e0 := hI.kp.cell d0
          have e1 := hI.kp.cell d1
          obtain ⟨g0, g1, g2, g3, g4⟩ := cells5 hI.bx
          have hgl : w7.heap.size + 1 ≤ wr.drew.heap.size := lt_of_at hI.bx
          have hKl : K.length + 1 ≤ 4398046511104 := by rw [hI.len]; have := chT_len ts R out k; omega
          have ga : (wr.alloc (Obj.cells #[Value.int IntKind.i64 oq, Value.slice na L.length nc] 43)).drew.cell? ⟨w7.heap.size, 4, none⟩ = some v := (((Keep.refl wr).alloc (Obj.cells #[Value.int IntKind.i64 oq, Value.slice na L.length nc] 43)).drew).cell g4
          clear d0 d1 hTq
          go_wp2_with fail
          go_region_law (refine step_appT (B := w7.heap.size + 1) rfl _ _ rfl K oq na L.length nc v (hI.own.keep (Keep.refl wr).drew) hgl hKl rfl rfl ?_; intro v7 wz hO7 g7 hv7; obtain ⟨a7, c7, rfl, hc7, -⟩ := hO7.shape; obtain ⟨hJ, b7⟩ := hI.step dc dn dl df hO7 g7; obtain ⟨_, _, _, _, r4⟩ := cells5 b7; have f4 := frozen_of_row _ _ 4 _ 26 b7; replace hJ : Hid _ := hJ; replace b7 : Hid _ := b7)
          all_goals
            go_wp2_with fail
            have hJ := hJ.out
            rw [show (K ++ [(oq, na, L.length, nc)]).length = K.length + 1 by simp, ← HT'.out, ← hR] at hJ
            exact ⟨⟨k + 1, _, _, by omega, by go_num, hJ⟩, by simp [intOf]; omega⟩
      · have hkc : ¬ (k : Int) < (n : Int) := by omega
        obtain rfl : k = n := by omega
        have k1r := k17.trans hI.kp
        obtain ⟨x0, x1, x2, x3, x4⟩ := cells5 (k1r.at t1)
        have hNm := names_any fs.length wr (by have := hok.2.2.2.2.1; omega)
        have hch : (chB nm (nms fs.length) N base (chT ts (T % k) out k)).1 = 0 := by
          have := chB_chosen (T % k) out hc (nms_len fs.length) (ft_nms (by have := hok.2.2.2.2.1; omega)) (fun h => by rw [HN.out] at h ⊢; exact Nat.mod_lt _ h)
          rw [HN.out] at this
          exact this
        have hus : ∀ j, j < (chT ts (T % k) out k).length → ((chT ts (T % k) out k).getD j (0, [])).2.length ≤ 1759218604441 := by
          intro j hj
          by_cases hk0 : 0 < ts.length
          · obtain ⟨i, hi, e⟩ := chT_mem ts (T % k) out hk0 k ((chT ts (T % k) out k).getD j (0, [])) (by simp [List.getD, hj])
            rw [e]
            exact hA.er.tn i hi
          · have := chT_len ts (T % k) out k
            have := HN.out
            omega
        have husl : (chT ts (T % k) out k).length ≤ 4398046511104 := by have := chT_len ts (T % k) out k; omega
        have hgw : w7.heap.size < wr.heap.size := lt_of_at hI.bx
        generalize chT ts (T % k) out k = us at *
        replace hch : Hid _ := hch
        replace hus : Hid _ := hus
        go_wp2_with (first
          | (go_at_call 24; refine hNm.mono ?_; rintro e wa ⟨an, cn, rfl, hO, ka⟩
             have hIa := hI.keep ka
             have fz1 := frozen_of_row _ _ 1 _ 26 hIa.bx
             obtain ⟨l0, l1, l2, l3, l4⟩ := cells5 hIa.bx
             obtain ⟨wb, hwb⟩ : ∃ x, wa.setCell ⟨w7.heap.size, 1, none⟩ (.slice an fs.length cn) = x := ⟨_, rfl⟩
             have hIb := hIa.set1 (.slice an fs.length cn)
             have hOb : OwnS wr.heap.size (wa.setCell ⟨w7.heap.size, 1, none⟩ (.slice an fs.length cn)) (.slice an fs.length cn) (nms fs.length) := hO.same (fun b hb => neq_set wa _ _ _ b (by have := (hO.block hb).1; omega))
             rw [hwb] at hIb hOb
             obtain ⟨a2, c2, e2, -, rf2⟩ := hOb.shape
             simp only [Value.slice.injEq] at e2
             obtain ⟨rfl, -, rfl⟩ := e2
             obtain ⟨ta2, ct2, rfl, rt2⟩ := hIb.rdT
             obtain ⟨p0, p1, p2, p3, p4⟩ := cells5 hIb.bx
             have hEb : EnA wb nm an (nms fs.length) bb base ta2 us := ⟨(hE7.keep hIb.kp).tb, hA.ns, rf2, by rw [nms_len]; exact hA.fl, fun j hj => by rw [nms_len] at hj; rw [nms_at hj]; show 5 ≤ _; omega, ⟨hA.er.bl, rb7.keep hIb.kp, hA.er.bb, husl, hus.out, rt2⟩⟩
             have hVb := Valid_any nm an (nms fs.length) cn N bb base cc ta2 us ct2 wb hEb
             rw [hch.out, nms_len] at hVb
             have hVb' : Calls Tryd.prog 12 #[.agg (ev nm an fs.length cn N bb base.length cc ta2 us.length ct2)] wb (fun e w' => e = .returned (.bool true) ∧ Keep wb w') := hVb
             clear hVb hEb rf2 rt2 hOb hO)
          | (go_at_call 12; refine hVb'.mono ?_; rintro e wc ⟨rfl, kc⟩))
        go_ret
        exact ⟨rfl, k1.trans (k17.trans (hIb.kp.trans kc))⟩
  · have hVf : ∀ wx, Keep w1 wx → Calls Tryd.prog 12 #[.agg (ev nm fa fs.length cf N ba base.length cb ta ts.length ct)] wx (fun e w' => e = .returned (.bool false) ∧ Keep wx w') := by
      intro wx q
      have := hV wx q
      rw [show ((chB nm fs N base ts).1 == 0) = false from by simpa using hc] at this
      exact this
    clear hV hc
    go_enter Tryd.func7, Tryd.ntmps7
    go_wp2_with (first
      | rw [hw1]
      | (go_at_call 19; refine hB.mono ?_; rintro e w2 ⟨rfl, k2⟩; obtain ⟨y0, y1, y2, y3, y4⟩ := cells5 (k2.at t1))
      | (go_at_call 12; refine (hVf w2 k2).mono ?_; rintro e w3 ⟨rfl, k3⟩))
    go_ret
    exact ⟨rfl, k1.trans (k2.trans k3)⟩
end Go.Proofs.YtmkanofeencgpaaDoor
