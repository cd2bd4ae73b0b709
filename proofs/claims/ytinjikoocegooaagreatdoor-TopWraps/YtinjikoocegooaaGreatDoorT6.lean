import Derived.Test.YtinjikoocegooaaGreatDoorT5
import Derived.Deep.CutRange
set_option linter.unusedVariables false
set_option linter.unusedSimpArgs false
namespace Go.Proofs.YtinjikoocegooaaGreatDoor
open Go.RowKit Go.Shelf
set_option maxRecDepth 100000 in
set_option maxHeartbeats 4000000 in
theorem law_wraps (nm : ByteArray) (fa : Option Addr) (fs : List ByteArray) (cf : Nat) (N : Int) (ba : Option Addr) (base : List Int) (cb : Nat) (ta : Option Addr) (ts : List (Int × List Nd)) (ct : Nat) (ax : Option Addr) (xs : List Nat) (cx : Nat) (ap : Option Addr) (ps : List Int) (cp : Nat) (w : World) (hA : EnA w nm fa fs ba base ta ts) (hcb : base.length ≤ cb) (hx : RdF w ax xs) (hxl : xs.length ≤ 17592186044416) (hpd : RdI w ap ps) (hpl : ps.length ≤ 17592186044416) (hpb : ∀ x ∈ ps, -9223372036854775808 ≤ x ∧ x ≤ 9223372036854775807) :
    Calls Tryz.prog 3 #[.agg (ev nm fa fs.length cf N ba base.length cb ta ts.length ct), .slice ax xs.length cx, .slice ap ps.length cp] w fun e w' => e = .returned (.bool true) ∧ Keep w w' := by
  obtain ⟨w1, hw1, k1, t1, s1⟩ := boxed w (ev nm fa fs.length cf N ba base.length cb ta ts.length ct) 26
  obtain ⟨z0, z1, z2, z3, z4⟩ := cells5 t1
  have hA1 := hA.keep k1
  have hB := alive_any w1 hA1.tb
  have hV := fun wx (q : Keep w1 wx) => Valid_any nm fa fs cf N ba base cb ta ts ct wx (hA1.keep q)
  by_cases hc : (chB nm fs N base ts).1 = 0
  · have hok := chB_ok hc
    rw [hok.1] at hV
    have hV' : ∀ wx, Keep w1 wx → Calls Tryz.prog 5 #[.agg (ev nm fa fs.length cf N ba base.length cb ta ts.length ct)] wx (fun e w' => e = .returned (.bool true) ∧ Keep wx w') := hV
    clear hV
    by_cases hxe : xs.length = fs.length
    · have hxc : ((xs.length : Int) != (fs.length : Int)) = false := by rw [bne, beq_iff_eq.2 (by omega)]; rfl
      have htl := hok.2.2.2.1
      obtain ⟨T, hT⟩ : ∃ T, ts.length = T := ⟨_, rfl⟩
      have HN : Hid (ts.length = T) := hT
      have HO : Hid _ := hok
      have HC : Hid _ := hc
      have HX : Hid (xs.length = fs.length) := hxe
      clear hxe hc
      rw [hT] at htl z4 t1 hw1 hV' ⊢
      clear hok hT
      go_enter Tryz.func3, Tryz.ntmps3
      go_wp2_with (first
        | rw [hw1]
        | (go_at_call 4; refine hB.mono ?_; rintro e w2 ⟨rfl, k2⟩; obtain ⟨y0, y1, y2, y3, y4⟩ := cells5 (k2.at t1))
        | (go_at_call 5; refine (hV' w2 k2).mono ?_; rintro e w3 ⟨rfl, k3⟩; have k13 := k2.trans k3; obtain ⟨x0, x1, x2, x3, x4⟩ := cells5 (k13.at t1))
        | (at_make; refine wpList_makeI2 _ rfl _ _ rfl _ _ _ _ T rfl rfl rfl rfl (by omega) ?_; intro w4 r4 k4 s4))
      rw [← rk_zero] at r4
      have k14 := k13.trans k4
      clear x0 x1 x2 x3 x4 y0 y1 y2 y3 y4 hB
      replace r4 : Hid _ := r4
      obtain ⟨go, hgo⟩ : ∃ g, w3.heap.size = g := ⟨_, rfl⟩
      have HG : Hid (w3.heap.size = go) := hgo
      rw [hgo] at r4 ⊢
      clear hgo
      go_loopw [48] (fun iv wr => ∃ k : Nat, k ≤ T ∧ iv = .int .i64 k ∧ RowI wr go (rk T k) ∧ Keep w3 wr) (fun iv _ => T - (intOf iv).toNat)
      case atStart => exact ⟨0, by omega, rfl, r4.out, k4⟩
      case round =>
        obtain ⟨k, hk, rfl, hr, kr⟩ := hrel
        by_cases hkl : k < T
        · have hkc : (k : Int) < (T : Int) := by omega
          have c0 := hr.cell k (by rw [rk_len]; exact hkl)
          have f0 := hr.frozen k
          have r5 := hr.set k k
          rw [rk_next T k hkl] at r5
          replace r5 : Hid _ := r5
          go_wp2_with fail
          go_roundw
          case rel => exact ⟨k + 1, by omega, by go_num, r5.out, kr.setCell (p := ⟨go, k, none⟩) (by rw [HG.out]; exact Nat.le_refl _) _⟩
          case measure => simp [intOf]; omega
        · have hkc : ¬ (k : Int) < (T : Int) := by omega
          have hkT : T = k := by omega
          subst hkT
          rw [rk_all] at hr
          obtain ⟨wA, hwA⟩ : ∃ wo, wo = wr := ⟨_, rfl⟩
          subst hwA
          replace hr : Hid _ := hr
          have HPB : Hid (∀ x ∈ ps, -9223372036854775808 ≤ x ∧ x ≤ 9223372036854775807) := hpb
          clear hpb
          go_wp2_with fail
          go_loopw [58] (fun iv w2r => ∃ (k : Nat) (P : List Nat), k ≤ T ∧ iv = .int .i64 k ∧ P.Perm (List.range T) ∧ RowI w2r go P ∧ Keep w3 w2r) (fun iv _ => T - (intOf iv).toNat)
          case atStart => exact ⟨0, _, by omega, rfl, List.Perm.refl _, hr.out, kr⟩
          case round =>
            clear hr kr
            obtain ⟨k, P, hk, rfl, hP, hr, kr⟩ := hrel
            have hPl : P.length = T := by have := hP.length_eq; simpa using this
            by_cases hkl : k < T
            · have hkc : (k : Int) < (T : Int) := by omega
              by_cases hkp : k < ps.length
              · have hkpc : (k : Int) < (ps.length : Int) := by omega
                obtain ⟨pb, po, rfl, pc⟩ := ((hpd.keep k1).keep (k13.trans kr)) k hkp
                obtain ⟨M, hM⟩ : ∃ M : Nat, IntKind.u64.wrap (ps.getD k 0) = (M : Int) := ⟨(IntKind.u64.wrap (ps.getD k 0)).toNat, by rw [IntKind.wrap_u64]; omega⟩
                generalize ps.getD k 0 = p at pc hM
                have hn2 : IntKind.u64.wrap (T : Int) = (T : Int) := by rw [IntKind.wrap_u64]; omega
                obtain ⟨q, hq, hql⟩ : ∃ q : Nat, ((M : Int).tmod (T : Int)) = (q : Int) ∧ q < T := ⟨M % T, by rw [Int.ofNat_tmod], Nat.mod_lt _ (by omega)⟩
                have hqi : IntKind.i64.wrap (q : Int) = (q : Int) := by rw [IntKind.wrap_i64]; omega
                have hqc : (q : Int) < (T : Int) := by omega
                have ck := hr.cell k (by omega)
                have cq := hr.cell q (by omega)
                have fk := hr.frozen k
                have fq := hr.frozen q
                have HP2 : Hid (((P.set k (P.getD q 0)).set q (P.getD k 0)).Perm (List.range T)) := (swap_perm P (by omega) (by omega)).trans hP
                have HR2 : Hid (RowI ((wr.setCell ⟨go, k, none⟩ (.int .i64 (P.getD q 0 : Nat))).setCell ⟨go, q, none⟩ (.int .i64 (P.getD k 0 : Nat))) go ((P.set k (P.getD q 0)).set q (P.getD k 0))) := (hr.set k _).set q _
                have HK2 : Hid (Keep w3 ((wr.setCell ⟨go, k, none⟩ (.int .i64 (P.getD q 0 : Nat))).setCell ⟨go, q, none⟩ (.int .i64 (P.getD k 0 : Nat)))) := (kr.setCell (p := ⟨go, k, none⟩) (by rw [HG.out]; exact Nat.le_refl _) _).setCell (p := ⟨go, q, none⟩) (by rw [HG.out]; exact Nat.le_refl _) _
                replace hP : Hid _ := hP
                replace hPl : Hid _ := hPl
                clear hr
                generalize P.getD k 0 = a1 at *
                generalize P.getD q 0 = a2 at *
                by_cases hkq : k = q
                · subst hkq
                  have e12 : a1 = a2 := by have := ck.symm.trans cq; simp at this; omega
                  subst e12
                  go_wp2_with fail
                  go_big_region
                  all_goals
                    go_simp
                    go_wp2_with fail
                    go_roundw
                    case rel => exact ⟨k + 1, _, by omega, by go_num, HP2.out, HR2.out, HK2.out.drew⟩
                    case measure => simp [intOf]; omega
                · have hkq2 : ¬ q = k := fun e => hkq e.symm
                  go_wp2_with fail
                  go_big_region
                  all_goals
                    go_simp
                    go_wp2_with fail
                    go_roundw
                    case rel => exact ⟨k + 1, _, by omega, by go_num, HP2.out, HR2.out, HK2.out.drew⟩
                    case measure => simp [intOf]; omega
              · have hkpc : ¬ (k : Int) < (ps.length : Int) := by omega
                go_wp2_with fail
                go_roundw
                case rel => exact ⟨k + 1, P, by omega, by go_num, hP, hr, kr⟩
                case measure => simp [intOf]; omega
            · have hkc : ¬ (k : Int) < (T : Int) := by omega
              have hkT : T = k := by omega
              subst hkT
              obtain ⟨wB, hwB⟩ : ∃ wo, wo = wr := ⟨_, rfl⟩
              subst hwB
              have k1B := k13.trans kr
              have hCp := Copy_any nm fa fs cf N ba base cb ta ts ct wB hA1.ns (hA1.keep k1B).rf hA1.fz hA1.fl (hA1.keep k1B).er.rb hcb hA1.er.bl (hA1.keep k1B).er.rt hA1.er.tl hA1.er.tn
              unfold ens at hCp
              rw [HN.out] at hCp
              obtain ⟨x0, x1, x2, x3, x4⟩ := cells5 (k1B.at t1)
              replace hP : Hid _ := hP
              replace hPl : Hid _ := hPl
              replace hr : Hid _ := hr
              go_wp2_with (first
                | (go_at_call 6; refine hCp.mono ?_; rintro e w5 ⟨fb, cg, bb, cc, tb, cd, rfl, rf5, hcf5, rb5, hcb5, rt5, hct5, k5⟩
                   obtain ⟨w6, hw6, k6, t6, s6⟩ := boxed w5 (ev nm fb fs.length cg N bb base.length cc tb T cd) 26
                   have fz4 := frozen_of_row _ _ 4 _ 26 t6
                   obtain ⟨l0, l1, l2, l3, l4⟩ := cells5 t6
                   obtain ⟨w7, hw7⟩ : ∃ x, w6.setCell ⟨w5.heap.size, 4, none⟩ (.slice none 0 0) = x := ⟨_, rfl⟩
                   have k57 : Keep w5 w7 := by rw [← hw7]; exact k6.setCell (p := ⟨w5.heap.size, 4, none⟩) (Nat.le_refl _) _
                   have t7 : w7.heap[w5.heap.size]? = some (.cells #[.string nm, .slice fb fs.length cg, .int .i64 N, .slice bb base.length cc, .slice none 0 0] 26 (0, 0)) := by
                     have := heap_setCell_same w6 w5.heap.size 4 _ 26 (.slice none 0 0) t6
                     rw [hw7] at this
                     simpa using this
                   have k15 := k1B.trans k5
                   have k17 := k15.trans k57
                   obtain ⟨n0, n1, n2, n3, n4⟩ := cells5 (k17.at t1)))
              have HJ := FJt.start k57 (Nat.le_refl _) t7
              have HRB : Hid (RowI wB go P) := hr.out
              have HP : Hid (P.Perm (List.range ts.length)) := by unfold Hid; rw [HN.out]; exact hP.out
              clear n0 n1 n2 n4 l0 l1 l2 l3 l4 fz4 hw7 hw6 t6 t7 k6 s6 x0 x1 x2 x3 x4 hCp hcf5 hct5
              replace HJ : Hid _ := HJ
              have hrb := (hA1.keep k17).er.rb
              have HBB : Hid _ := hA.er.bb
              have hbl := hA.er.bl
              go_loopw [12, 96] (fun sv iv wr => ∃ (k : Nat) (K : List V3), k ≤ base.length ∧ iv = .int .i64 k ∧ OwnQ w7.heap.size wr sv K ∧ QL wr (base.take k) K ∧ Keep w7 wr) (fun _ iv _ => base.length - (intOf iv).toNat)
              case atStart => exact ⟨0, [], by omega, rfl, OwnQ.nil _ _, ⟨by simp, fun j hj => by simp at hj⟩, Keep.refl _⟩
              case round =>
                clear hr kr
                obtain ⟨k, K, hk, rfl, hO, hQ, kr⟩ := hrel
                by_cases hkl : k < base.length
                · have hkc : (k : Int) < (base.length : Int) := by omega
                  obtain ⟨pb, po, rfl, pc⟩ := (hrb.keep kr) k hkl
                  have hxb := HBB.out (base.getD k 0) (by simp [List.getD, hkl])
                  have hWh := Whole_w (base.getD k 0) wr hxb.1 hxb.2
                  have HTS : Hid (base.take (k + 1) = base.take k ++ [base.getD k 0]) := take_snoc hkl
                  have hKl : K.length + 1 ≤ 1099511627776 := by
                    have h1 := hQ.1
                    have h2 := HO.out.2.1
                    have h3 := HO.out.2.2.1
                    rw [List.length_take] at h1
                    omega
                  generalize base.getD k 0 = x at pc hxb hWh HTS
                  have hB7 := kr.le
                  replace hQ : Hid (QL wr (base.take k) K) := hQ
                  have HKL : Hid (k < base.length) := hkl
                  clear hkl
                  go_wp2_with (first
                    | (go_at_call 7; refine hWh.mono ?_; rintro e wW ⟨t, rfl, qW, kW⟩
                       have HQ2 : Hid (QL wW (base.take k ++ [x]) (K ++ [t])) := (hQ.out.keep kW).snoc qW
                       have hO2 := hO.keep kW
                       have hB8 : w7.heap.size ≤ wW.heap.size := Nat.le_trans hB7 kW.le
                       obtain ⟨an, n, cn, ad, m, cd2, rfl, -⟩ := qW.shape
                       clear qW)
                    | (at_builtin; refine wpList_appQ w7.heap.size wW rfl _ _ rfl K (.bool (decide (x < 0)), .slice an n cn, .slice ad m cd2) _ ?_ hO2 hB8 rfl rfl rfl ?_ hKl ?_; rotate_left 2; intro vN wN hON gN))
                  rotate_left 1
                  · rfl
                  · rfl
                  have HQN := HQ2.out.grown hO2 gN
                  have HKN := keep_grownQ (kr.trans kW) (Nat.le_refl _) hO2 gN
                  rw [← HTS.out] at HQN
                  go_roundw
                  case rel => exact ⟨k + 1, _, HKL.out, by go_num, hON, HQN, HKN⟩
                  case measure => have := HKL.out; simp [intOf]; omega
                · have hkc : ¬ (k : Int) < (base.length : Int) := by omega
                  have hkT : base.length = k := by omega
                  subst hkT
                  rw [List.take_length] at hQ
                  obtain ⟨wC, hwC⟩ : ∃ wo, wo = wr := ⟨_, rfl⟩
                  subst hwC
                  have hKl : K.length = base.length := hQ.1
                  have HBL : Hid (0 < base.length) := by unfold Hid; have h2 := HO.out.2.1; have h3 := HO.out.2.2.1; omega
                  obtain ⟨gq, cq, e12, -, hgq, -⟩ := hO.at (by rw [hKl]; exact HBL.out)
                  rw [hKl] at e12
                  subst e12
                  have HJC := HJ.out.keep kr
                  replace HJC : Hid _ := HJC
                  replace hQ : Hid (QL wC base K) := hQ
                  replace hgq : Hid _ := hgq
                  clear HJ n3 hrb hKl
                  go_wp2_with fail
                  go_loopw [15] (fun nv wr => ∃ (n : Nat) (vt : Value) (Kt : List (Int × Option Addr × Nat × Nat)) (Kq : List V3), n ≤ T ∧ nv = .int .i64 n ∧ FJt w5 w5.heap.size (.string nm) (.slice fb fs.length cg) (.int .i64 N) (.slice bb base.length cc) (pick ts (P.take n)) wr vt Kt ∧ OwnQ w7.heap.size wr (.slice (some ⟨gq, 0, none⟩) base.length cq) Kq ∧ QL wr (sk xs base (pick ts (P.take n)) (pick ts (P.take n)).length) Kq) (fun nv _ => T + 1 - (intOf nv).toNat)
                  case atStart => exact ⟨0, _, _, K, by omega, rfl, HJC.out, hO, hQ.out⟩
                  case round =>
                    clear HJC hO hQ kr
                    obtain ⟨n, vt, Kt, Kq, hn, rfl, hJ, hO, hQ⟩ := hrel
                    obtain ⟨wD, hwD⟩ : ∃ wo, wo = wr := ⟨_, rfl⟩
                    subst hwD
                    obtain ⟨c1, c2, c3⟩ := pick_ok HC.out HX.out HP.out n
                    obtain ⟨us, hus⟩ : ∃ us, pick ts (P.take n) = us := ⟨_, rfl⟩
                    rw [hus] at hJ hQ c1 c2 c3
                    have HU : Hid (pick ts (P.take n) = us) := hus
                    clear hus
                    have hul : us.length = n := by rw [← HU.out, pick_len, List.length_take, hPl.out]; omega
                    have hus2 : ∀ j, j < us.length → (us.getD j (0, [])).2.length ≤ 1759218604441 := by
                      intro j hj
                      have hm : us.getD j (0, []) ∈ pick ts (P.take n) := by rw [HU.out]; simp [List.getD, hj]
                      obtain ⟨i, hi, e⟩ := pick_mem HP.out hm
                      rw [e]
                      exact hA.er.tn i hi
                    obtain ⟨E, hE⟩ : ∃ E, sk xs base us us.length = E := ⟨_, rfl⟩
                    rw [hE] at hQ c2 c3
                    have HE : Hid (sk xs base us us.length = E) := hE
                    have hEl : E.length = base.length := by rw [← HE.out, sk_len]
                    clear hE
                    obtain ⟨ta2, ct2, rfl, rt2⟩ := hJ.rdT
                    have k1D := k15.trans hJ.kp
                    have hxD := (hx.keep k1).keep k1D
                    have hS := Score_any nm fb fs.length cg N bb base cc ta2 us ct2 ax xs cx wD (rb5.keep hJ.kp) hcb5 hA.er.bl rt2 (by omega) hxD hxl (by have := hA.fl; omega)
                    rw [c2] at hS
                    unfold ens at hS
                    have hEb : EnA wD nm fb fs bb base ta2 us := ⟨(hA1.keep k1D).tb, hA.ns, rf5.keep hJ.kp, hA.fl, hA.fz, ⟨hA.er.bl, rb5.keep hJ.kp, hA.er.bb, by omega, hus2, rt2⟩⟩
                    have hV2 := fun wx (q : Keep wD wx) => Valid_any nm fb fs cg N bb base cc ta2 us ct2 wx (hEb.keep q)
                    rw [(chB_ok c1).1] at hV2
                    have hV3 : ∀ wx, Keep wD wx → Calls Tryz.prog 5 #[.agg (ev nm fb fs.length cg N bb base.length cc ta2 us.length ct2)] wx (fun e w' => e = .returned (.bool true) ∧ Keep wx w') := hV2
                    clear hV2 hEb c1 c2
                    have hnc : (n : Int) ≤ (T : Int) := by omega
                    obtain ⟨b0, b1, b2, b3, b4⟩ := cells5 hJ.bx
                    have HUL : Hid (us.length = n) := hul
                    have HEL : Hid (E.length = base.length) := hEl
                    replace c3 : Hid _ := c3
                    replace hQ : Hid (QL wD E Kq) := hQ
                    clear hul hus2
                    go_wp2_with (first
                      | (go_at_call 8; refine hS.mono ?_; rintro e wS ⟨v, rfl, oz, kS⟩
                         obtain ⟨av, cv, ev, hcv, hrv⟩ := oz.shape
                         rw [HEL.out] at ev
                         subst ev
                         clear hEl
                         obtain ⟨d0, d1, d2, d3, d4⟩ := cells5 (kS.at hJ.bx)
                         have hV4 := hV3 wS kS)
                      | (go_at_call 5; refine hV4.mono ?_; rintro e wV ⟨rfl, kV⟩))
                    have k1V := k1D.trans (kS.trans kV)
                    have kDV := kS.trans kV
                    have HSV : Hid (RdI wV av E) := hrv.keep kV
                    clear b0 b1 b2 b3 b4 d0 d1 d2 d3 d4 hS hV3 hV4 oz hcv hrv
                    go_loopw [134] (fun iv wr => ∃ k : Nat, k ≤ base.length ∧ iv = .int .i64 k ∧ Keep wV wr) (fun iv _ => base.length - (intOf iv).toNat)
                    case atStart => exact ⟨0, by omega, rfl, Keep.refl _⟩
                    case round =>
                      obtain ⟨k, hk, rfl, kr⟩ := hrel
                      have kVr := kDV.trans kr
                      by_cases hkl : k < base.length
                      · have hkc : (k : Int) < (base.length : Int) := by omega
                        obtain ⟨sb, so, rfl, sc⟩ := (HSV.out.keep kr) k (by rw [HEL.out]; exact hkl)
                        have hKq : k < Kq.length := by rw [hQ.out.1, HEL.out]; exact hkl
                        obtain ⟨q0, q1, q2, -, -, -⟩ := (hO.keep kVr).cells hKq
                        have qk := (hQ.out.2 k (by rw [HEL.out]; exact hkl)).keep kVr
                        obtain ⟨c31, c32⟩ := c3.out k hkl
                        have hRm : ∀ wx, Keep w1 wx → Calls Tryz.prog 10 #[.agg (ev nm fa fs.length cf N ba base.length cb ta T ct), .int .i64 (k : Int)] wx (fun e w' => ∃ v, e = .returned (.tuple #[v, .int .i64 0]) ∧ NatV w' v (rm base ts k) ∧ Keep wx w') := by
                          intro wx q
                          have h := Room_all nm fa fs.length cf N ba base cb ta ts ct (k : Int) wx (hA1.keep q).er
                          have e1 : rmZ base (k : Int) = 0 := if_pos (by omega)
                          have e2 : rmN base ts (k : Int) = rm base ts k := by unfold rmN; rw [if_pos (by omega)]; rfl
                          rw [e1, e2, HN.out] at h
                          refine h.mono fun e w' ⟨v, h1, h2, _, h4⟩ => ⟨v, h1, h2, h4⟩
                        generalize E.getD k 0 = x at sc qk c31
                        generalize rm base ts k = R at hRm c31 c32
                        obtain ⟨t3, ht3⟩ : ∃ t, Kq.getD k tq0 = t := ⟨_, rfl⟩
                        rw [ht3] at q0 q1 q2 qk
                        obtain ⟨an, m1, cn, ad, m2, cd2, rfl, nvk⟩ := qk.shape
                        simp only at q0 q1 q2
                        have hWh := fun wx => Whole_w x wx (by omega) (by omega)
                        have hOr : ∀ wx t, Keep wr wx → QW wx x t → Calls Tryz.prog 9 #[.agg #[.bool (decide (x < 0)), .slice an m1 cn, .slice ad m2 cd2], .agg #[t.1, t.2.1, t.2.2]] wx (fun e w' => e = .returned (.tuple #[.int .i64 0, .int .i64 0]) ∧ Keep wx w') := fun wx t q hq => Order_w (a := x) (b := x) (s := (.bool (decide (x < 0)), .slice an m1 cn, .slice ad m2 cd2)) (t := t) wx (qk.keep q) hq rfl
                        have e1 : decide ((4611686018427387904 : Int) ≤ x) = false := decide_eq_false (by omega)
                        have e2 : decide (x ≤ (-4611686018427387904 : Int)) = false := decide_eq_false (by omega)
                        have hCmp : ∀ wx rv, Keep wr wx → NatV wx rv R → Calls Tryz.prog 11 #[.slice an m1 cn, rv] wx (fun e w' => (∃ c : Int, e = .returned (.int .i64 c) ∧ decide (0 < c) = false) ∧ Keep wx w') := fun wx rv q hq => Cmp_le x.natAbs R (.slice an m1 cn) rv wx (nvk.keep q) hq (Nat.lt_trans (Nat.lt_of_le_of_lt c31 c32) (by decide)) (Nat.lt_trans c32 (by decide)) c31
                        have HKL : Hid (k < base.length) := hkl
                        have k1r := k1V.trans kr
                        have kd := (Keep.refl wr).drew
                        have qd0 := kd.cell q0
                        have qd1 := kd.cell q1
                        have qd2 := kd.cell q2
                        clear c31 c32 ht3 hkl hKq
                        go_wp2_with fail
                        go_region_held3 (fun w' => w'.cell? ⟨gq, k * 3, none⟩ = some (Value.bool (decide (x < 0))) ∧ w'.cell? ⟨gq, k * 3 + 1, none⟩ = some (Value.slice an m1 cn) ∧ w'.cell? ⟨gq, k * 3 + 2, none⟩ = some (Value.slice ad m2 cd2)) (first | with_reducible exact ⟨qd0, qd1, qd2⟩ | with_reducible exact ⟨p0, p1, p2⟩ | with_reducible exact ⟨j0, j1, j2⟩) (first
                          | (go_at_call 7; refine (hWh _).mono ?_; rintro e wW ⟨t, rfl, qW, kW⟩; have kW0 : Keep wr wW := (Keep.refl wr).drew.trans kW; have p0 := kW0.cell q0; have p1 := kW0.cell q1; have p2 := kW0.cell q2)
                          | (go_at_call 9; refine (hOr wW t kW0 qW).mono ?_; rintro e wO ⟨rfl, kO⟩; have kO0 := kW0.trans kO; have j0 := kO0.cell q0; have j1 := kO0.cell q1; have j2 := kO0.cell q2; have k1O := k1r.trans kO0; obtain ⟨o0, o1, o2, o3, o4⟩ := cells5 (k1O.at t1); have hRmO := hRm wO k1O))
                        all_goals
                          go_simp
                          go_wp2_with (first
                            | (go_at_call 10; refine hRmO.mono ?_; rintro e wR ⟨rv, rfl, nvR, kR⟩; have kR0 := kO0.trans kR; have g1 := kR0.cell q1; have hCm := hCmp wR rv kR0 nvR)
                            | (go_at_call 11; refine hCm.mono ?_; rintro e wM ⟨⟨c, rfl, hc0⟩, kM⟩; have kM0 := kR0.trans kM))
                          go_roundw
                          case rel => exact ⟨k + 1, HKL.out, by go_num, kr.trans kM0⟩
                          case measure => have := HKL.out; simp [intOf]; omega
                      · have hkc : ¬ (k : Int) < (base.length : Int) := by omega
                        have hkT : base.length = k := by omega
                        subst hkT
                        obtain ⟨wF, hwF⟩ : ∃ wo, wo = wr := ⟨_, rfl⟩
                        subst hwF
                        have k1F := k1V.trans kr
                        have kDF := kDV.trans kr
                        by_cases hnT : n < T
                        · have hne : ((n : Int) == (T : Int)) = false := by rw [beq_eq_false_iff_ne]; omega
                          have hnl : n < P.length := by rw [hPl.out]; exact hnT
                          have roF : RowI wF go P := ((k5.trans hJ.kp).trans kDF).at HRB.out
                          have oc := roF.cell n hnl
                          have hqT : P.getD n 0 < ts.length := by
                            have h1 : P.getD n 0 ∈ P := by simp [List.getD, hnl]
                            exact List.mem_range.1 (HP.out.subset h1)
                          have HPK : Hid (pick ts (P.take (n + 1)) = us ++ [ts.getD (P.getD n 0) (0, [])]) := by
                            unfold Hid
                            rw [pick_snoc hnl, HU.out]
                          generalize P.getD n 0 = q at oc hqT HPK
                          obtain ⟨u, hu1, hul, hwy, hlv, hrm⟩ := pick_next HC.out HX.out hqT
                          obtain ⟨c31, c32⟩ := c3.out u hul
                          obtain ⟨b1, o1, na, nc, rfl, d0, d1, dn, dc, dl, df⟩ := (hA1.keep k15).er.rt q hqT
                          obtain ⟨oq, L, hTq⟩ : ∃ oq L, ts.getD q (0, []) = (oq, L) := ⟨_, _, rfl⟩
                          rw [hTq] at hu1 hwy hlv d0 d1 dn dc dl df HPK
                          simp only at hu1 hwy hlv d0 d1 dn dc dl df
                          subst hu1
                          have hqc : (q : Int) < (T : Int) := by rw [← HN.out]; omega
                          have y0 := (hJ.kp.trans kDF).cell d0
                          have y1 := (hJ.kp.trans kDF).cell d1
                          obtain ⟨e0, e1, e2, e3, e4⟩ := cells5 (k1F.at t1)
                          have hl1 : go < wF.heap.size := World.block_lt_of_cell? wF _ oc
                          have hl2 : b1 < wF.heap.size := World.block_lt_of_cell? wF _ y0
                          have hl3 : w.heap.size < wF.heap.size := World.block_lt_of_cell? wF _ e0
                          clear d0 d1 hTq hqT roF
                          obtain ⟨wG, hwG, kG, tG⟩ : ∃ wG, (wF.alloc (Obj.cells #[Value.int IntKind.i64 (u : Int), Value.slice na L.length nc] 48)).drew = wG ∧ Keep wF wG ∧ wG.heap[wF.heap.size]? = some (Obj.cells #[Value.int IntKind.i64 (u : Int), Value.slice na L.length nc] 48 (0, 0)) := ⟨_, rfl, ((Keep.refl wF).alloc _).drew, heap_alloc_new wF _⟩
                          replace hwG : Hid ((wF.alloc (Obj.cells #[Value.int IntKind.i64 (u : Int), Value.slice na L.length nc] 48)).drew = wG) := hwG
                          obtain ⟨gg0, gg1, -, -⟩ := cells2 tG
                          have hLf := Leaf_any na ax nc cx (u : Int) L xs dl hxl wG (dn.keep ((hJ.kp.trans kDF).trans kG)) ((hx.keep k1).keep (k1F.trans kG))
                          rw [hwy] at hLf
                          have SKN : Hid (sk xs base (us ++ [((u : Int), L)]) (us ++ [((u : Int), L)]).length = E.set u (E.getD u 0 + lfV L xs)) := sk_put HE.out (by omega)
                          have hKq : u < Kq.length := by rw [hQ.out.1, HEL.out]; exact hul
                          have qu := hQ.out.2 u (by rw [HEL.out]; exact hul)
                          generalize E.getD u 0 = a0 at SKN c31 qu
                          generalize lfV L xs = lv at SKN hLf hlv
                          generalize (lfK L xs : Nat) = lk at hLf
                          obtain ⟨t3, ht3⟩ : ∃ t, Kq.getD u tq0 = t := ⟨_, rfl⟩
                          obtain ⟨q0, q1, q2, fq0, fq1, fq2⟩ := hO.cells hKq
                          rw [ht3] at q0 q1 q2 qu
                          obtain ⟨an, m1, cn, ad, m2, cd2, rfl, -⟩ := qu.shape
                          simp only at q0 q1 q2
                          have hWv := fun wx => Whole_w lv wx (by omega) (by omega)
                          have hPs : ∀ wx t, Keep wD wx → QW wx lv t → Calls Tryz.prog 13 #[.agg #[.bool (decide (a0 < 0)), .slice an m1 cn, .slice ad m2 cd2], .agg #[t.1, t.2.1, t.2.2]] wx (fun e w' => ∃ v, e = .returned (.tuple #[.agg #[v.1, v.2.1, v.2.2], .int .i64 0]) ∧ QW w' (a0 + lv) v ∧ Keep wx w') := fun wx t q hq => Plus_w (a := a0) (b := lv) (s := (.bool (decide (a0 < 0)), .slice an m1 cn, .slice ad m2 cd2)) (t := t) wx (qu.keep q) hq (by omega)
                          have huc : (u : Int) < (base.length : Int) := by omega
                          have HUB : Hid (u < base.length) := hul
                          have kFG : Hid (Keep wF wG) := kG
                          have hgqD : gq < wD.heap.size := World.block_lt_of_cell? wD _ q0
                          obtain ⟨cur, hgt⟩ : ∃ cur, wD.heap[gq]? = some (.cells cur 36 (0, 0)) := (hO.block (b := gq) rfl).2
                          replace hgt : Hid (wD.heap[gq]? = some (.cells cur 36 (0, 0))) := hgt
                          clear hlv hrm c31 c32 ht3 hwy hul
                          go_wp2_with fail
                          go_big_region
                          go_simp
                          rw [hwG.out]
                          go_wp2_with (first
                            | (go_at_call 12; refine hLf.mono ?_; rintro e wL ⟨rfl, kL⟩
                               have kFL := kG.trans kL
                               have kDL := kDF.trans kFL
                               have tL := kL.at tG
                               obtain ⟨g0, g1, -, -⟩ := cells2 tL
                               have p0 := kDL.cell q0
                               have p1 := kDL.cell q1
                               have p2 := kDL.cell q2
                               have hP7 : gq < wL.heap.size := Nat.lt_of_lt_of_le hgqD kDL.le
                               have ht7 : wF.heap.size < wL.heap.size := lt_of_at tL
                               have np7 : ¬ gq = wL.heap.size := Nat.ne_of_lt hP7
                               have np7' : ¬ wL.heap.size = gq := fun h => np7 h.symm
                               have nt7 : ¬ wF.heap.size = wL.heap.size := Nat.ne_of_lt ht7
                               have nt7' : ¬ wL.heap.size = wF.heap.size := fun h => nt7 h.symm))
                          go_cut [27, 28] from 203 to 213 (fun sv se wx => se = .int .i64 0 ∧ QBx wL wx sv (a0 + lv))
                          case first =>
                            go_region_held3 (fun w' => w'.cell? ⟨wF.heap.size, 0, none⟩ = some (Value.int IntKind.i64 (u : Int)) ∧ w'.cell? ⟨gq, u * 3, none⟩ = some (Value.bool (decide (a0 < 0))) ∧ w'.cell? ⟨gq, u * 3 + 1, none⟩ = some (Value.slice an m1 cn) ∧ w'.cell? ⟨gq, u * 3 + 2, none⟩ = some (Value.slice ad m2 cd2)) (go_keep) (first
                              | (go_at_call 7; refine (hWv _).mono ?_; rintro e w8 ⟨t8, rfl, Q8, k8⟩; obtain ⟨a8, l8, c8, b8, m8, f8, rfl, -⟩ := Q8.shape; have kz : Keep wL w8 := (by first | exact ((Keep.refl wL).drew).trans k8 | exact (((Keep.refl wL).alloc _).drew).trans k8); have r0 := Keep.cell kz g0; have s0 := Keep.cell kz p0; have s1 := Keep.cell kz p1; have s2 := Keep.cell kz p2; have hP8 : gq < w8.heap.size := Nat.lt_of_lt_of_le hP7 (Keep.le kz); have ht8 : wF.heap.size < w8.heap.size := Nat.lt_of_lt_of_le ht7 (Keep.le kz); have np8 : ¬ gq = w8.heap.size := Nat.ne_of_lt hP8; have np8' : ¬ w8.heap.size = gq := fun h => np8 h.symm; have nt8 : ¬ wF.heap.size = w8.heap.size := Nat.ne_of_lt ht8; have nt8' : ¬ w8.heap.size = wF.heap.size := fun h => nt8 h.symm; first | (have bz := Keep.at (w := (wL.alloc (Obj.cells #[Value.bool false, Value.slice none 0 0, Value.slice none 0 0] 36)).drew) k8 (heap_alloc_new wL (Obj.cells #[Value.bool false, Value.slice none 0 0, Value.slice none 0 0] 36))) | skip)
                              | (go_at_call 13; refine (hPs _ (.bool (decide (lv < 0)), .slice a8 l8 c8, .slice b8 m8 f8) (by first | exact kDL.trans kz | exact (kDL.trans kz).alloc _) (by first | exact Q8 | exact Q8.keep ((Keep.refl _).alloc _))).mono ?_; rintro e w9 ⟨t9, rfl, Q9, k9⟩; obtain ⟨a9, l9, c9, b9, m9, f9, rfl, -⟩ := Q9.shape; have kz9 : Keep wL w9 := (by first | exact kz.trans k9 | exact (kz.alloc _).trans k9); have r0' := Keep.cell kz9 g0; have s0' := Keep.cell kz9 p0; have s1' := Keep.cell kz9 p1; have s2' := Keep.cell kz9 p2; first | (have bz9 := Keep.at k9 bz; obtain ⟨zz0, zz1, zz2, ff0, ff1, ff2⟩ := cells3q bz9) | (have bz9 := Keep.at k9 (heap_alloc_new w8 (Obj.cells #[Value.bool false, Value.slice none 0 0, Value.slice none 0 0] 36)); obtain ⟨zz0, zz1, zz2, ff0, ff1, ff2⟩ := cells3q bz9) | (obtain ⟨wA1, hwA1, kA1, bA1, -⟩ := boxed w9 #[Value.bool (decide (a0 + lv < 0)), Value.slice a9 l9 c9, Value.slice b9 m9 f9] 36; have r0'' := Keep.cell kA1 r0'; have s0'' := Keep.cell kA1 s0'; have s1'' := Keep.cell kA1 s1'; have s2'' := Keep.cell kA1 s2')))
                            all_goals go_simp
                            all_goals go_wp2_with fail
                            all_goals go_meet
                            all_goals first
                              | exact ⟨rfl, w9.heap.size, a9, l9, c9, b9, m9, f9, rfl, Keep.le kz9, bA1, Q9.keep kA1, kz9.trans kA1⟩
                              | exact ⟨rfl, w8.heap.size, a9, l9, c9, b9, m9, f9, rfl, Keep.le kz, heap3q w9 w8.heap.size _ _ _ bz9, Q9.put3 bz9 0 1 2 _ _ _, keep3q kz9 _ 0 1 2 (Keep.le kz) _ _ _⟩
                              | exact ⟨rfl, wL.heap.size, a9, l9, c9, b9, m9, f9, rfl, Nat.le_refl _, heap3q w9 wL.heap.size _ _ _ bz9, Q9.put3 bz9 0 1 2 _ _ _, keep3q kz9 _ 0 1 2 (Nat.le_refl _) _ _ _⟩
                          case rest =>
                            obtain ⟨rfl, B, a, l, c, b, m, f, rfl, hBw, Bq, Qq, kq⟩ := hcut
                            have kDc := kDL.trans kq
                            have tc := kq.at tL
                            obtain ⟨h0, h1, -, -⟩ := cells2 tc
                            obtain ⟨v0, v1, v2, -, -, -⟩ := cells3q Bq
                            have hOc := hO.keep kDc
                            have s0 := kDc.cell q0
                            have s1 := kDc.cell q1
                            have s2 := kDc.cell q2
                            obtain ⟨-, -, -, f0, f1, f2⟩ := hOc.cells hKq
                            have gtc := kDc.at hgt.out
                            have hKl : Kq.length = base.length := by rw [hQ.out.1, HEL.out]
                            have hJc := hJ.keep kDc
                            have hgq5 : w5.heap.size ≤ gq := Nat.le_trans k57.le hgq.out
                            obtain ⟨wX, hwX⟩ : ∃ x, (((wc.setCell ⟨gq, u * 3, none⟩ (Value.bool (decide (a0 + lv < 0)))).setCell ⟨gq, u * 3 + 1, none⟩ (Value.slice a l c)).setCell ⟨gq, u * 3 + 2, none⟩ (Value.slice b m f)) = x := ⟨_, rfl⟩
                            have hJX := hJc.put3 gtc hgq5 (u * 3) (u * 3 + 1) (u * 3 + 2) (Value.bool (decide (a0 + lv < 0))) (Value.slice a l c) (Value.slice b m f)
                            rw [hwX] at hJX
                            have hOX : OwnQ w7.heap.size wX (.slice (some ⟨gq, 0, none⟩) base.length cq) (Kq.set u (Value.bool (decide (a0 + lv < 0)), Value.slice a l c, Value.slice b m f)) := by
                              have h := OwnQ.put (by rw [hKl]; exact hOc) hKq (Value.bool (decide (a0 + lv < 0)), Value.slice a l c, Value.slice b m f)
                              rw [hKl] at h
                              rw [← hwX]
                              exact h
                            have hQX := ((hQ.out.keep kDc).put Qq (by rw [HEL.out]; exact HUB.out)).put3 gtc (u * 3) (u * 3 + 1) (u * 3 + 2) (Value.bool (decide (a0 + lv < 0))) (Value.slice a l c) (Value.slice b m f)
                            rw [hwX] at hQX
                            have tX : wX.heap[wF.heap.size]? = some (Obj.cells #[Value.int IntKind.i64 (u : Int), Value.slice na L.length nc] 48 (0, 0)) := by
                              rw [← hwX, neq3 wc gq _ _ _ _ _ _ wF.heap.size (fun e => by rw [e, gtc] at tc; simp at tc)]
                              exact tc
                            obtain ⟨i0, i1, -, -⟩ := cells2 tX
                            obtain ⟨j0, j1, j2, j3, j4⟩ := cells5 hJX.bx
                            have hgX : w5.heap.size + 1 ≤ wX.heap.size := lt_of_at hJX.bx
                            have hKtl : Kt.length + 1 ≤ 4398046511104 := by rw [hJX.len, HUL.out]; omega
                            replace hQX : Hid (QL wX (E.set u (a0 + lv)) (Kq.set u (Value.bool (decide (a0 + lv < 0)), Value.slice a l c, Value.slice b m f))) := hQX
                            have HNT : Hid (n < T) := hnT
                            clear hJc hOc gtc hgq5 hKl tc g0 g1 p0 p1 p2 hP7 ht7 np7 np7' nt7 nt7' hWv hPs hnT
                            go_wp2_with (first
                              | rw [hwX]
                              | (at_builtin; refine wpList_appT2 (w5.heap.size + 1) wX rfl _ _ rfl Kt (u : Int) na L.length nc _ ?_ hJX.own hgX hKtl ?_ ?_; rotate_left 2; intro v7 wY hO7 g7
                                 obtain ⟨hJ2, b7⟩ := hJX.step2 dc dn dl df hO7 g7
                                 obtain ⟨a7, c7, rfl, hc7, -⟩ := hO7.shape
                                 obtain ⟨-, -, -, -, r4⟩ := cells5 b7
                                 have f4 := frozen_of_row _ _ 4 _ 26 b7
                                 have hOY := hOX.same (fun b cur hb _ => grownT_other hJX.own g7 hb (by decide))
                                 have hQY := hQX.out.same (fun b cur hb => grownT_other hJX.own g7 hb (by decide))
                                 have hOZ := hOY.same (w' := wY.setCell ⟨w5.heap.size, 4, none⟩ (.slice a7 (Kt ++ [((u : Int), na, L.length, nc)]).length c7)) (fun b cur hb _ => neq_set wY _ _ _ b (fun e => by rw [e, b7] at hb; simp at hb))
                                 have hQZ := hQY.same (w' := wY.setCell ⟨w5.heap.size, 4, none⟩ (.slice a7 (Kt ++ [((u : Int), na, L.length, nc)]).length c7)) (fun b cur hb => neq_set wY _ _ _ b (fun e => by rw [e, b7] at hb; simp at hb))
                                 have HFIN : Hid _ := And.intro hJ2 (And.intro hOZ hQZ)
                                 clear hJ2 hOZ hQZ hOY hQY b7 hO7 g7))
                            rotate_left 1
                            · rfl
                            · rfl
                            have hF := HFIN.out
                            have hKl2 : (Kt ++ [((u : Int), na, L.length, nc)]).length = Kt.length + 1 := by simp
                            rw [hKl2] at hF
                            have hfin := next_round HNT.out HPK.out SKN.out hF
                            clear hF HFIN hKl2
                            refine ⟨hfin.1, ?_⟩
                            have := HNT.out
                            clear hfin
                            simp [intOf]
                            omega
                        · have hne : ((n : Int) == (T : Int)) = true := by rw [beq_iff_eq]; omega
                          go_wp2_with fail
                          go_ret
                          exact ⟨rfl, k1.trans k1F⟩
    · have hxc : ((xs.length : Int) != (fs.length : Int)) = true := by rw [bne_iff_ne]; omega
      clear hok hc hxe
      go_enter Tryz.func3, Tryz.ntmps3
      go_wp2_with (first
        | rw [hw1]
        | (go_at_call 4; refine hB.mono ?_; rintro e w2 ⟨rfl, k2⟩; obtain ⟨y0, y1, y2, y3, y4⟩ := cells5 (k2.at t1))
        | (go_at_call 5; refine (hV' w2 k2).mono ?_; rintro e w3 ⟨rfl, k3⟩; have k13 := k2.trans k3; obtain ⟨x0, x1, x2, x3, x4⟩ := cells5 (k13.at t1)))
      go_ret
      exact ⟨rfl, k1.trans k13⟩
  · have hVf : ∀ wx, Keep w1 wx → Calls Tryz.prog 5 #[.agg (ev nm fa fs.length cf N ba base.length cb ta ts.length ct)] wx (fun e w' => e = .returned (.bool false) ∧ Keep wx w') := by
      intro wx q
      have := hV wx q
      rw [show ((chB nm fs N base ts).1 == 0) = false from by simpa using hc] at this
      exact this
    clear hV hc
    go_enter Tryz.func3, Tryz.ntmps3
    go_wp2_with (first
      | rw [hw1]
      | (go_at_call 4; refine hB.mono ?_; rintro e w2 ⟨rfl, k2⟩; obtain ⟨y0, y1, y2, y3, y4⟩ := cells5 (k2.at t1))
      | (go_at_call 5; refine (hVf w2 k2).mono ?_; rintro e w3 ⟨rfl, k3⟩))
    go_ret
    exact ⟨rfl, k1.trans (k2.trans k3)⟩
end Go.Proofs.YtinjikoocegooaaGreatDoor
