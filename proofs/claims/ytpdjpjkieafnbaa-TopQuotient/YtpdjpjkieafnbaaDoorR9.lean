import Derived.Test.YtpdjpjkieafnbaaDoorR8
import Derived.Deep.CutRange
set_option linter.unusedVariables false
set_option linter.unusedSimpArgs false
namespace Go.Proofs.YtpdjpjkieafnbaaDoor.Li
open Go.RowKit Lb
theorem way_A {s : List UInt8} (h : (cWh s).length = 0) : cPt s = [] ∧ cNP s = false ∧ cDP s = [] ∧ cAt s = cK3 s ∧ cOk s = false := by
  have h0 : cWh s = [] := List.eq_nil_of_length_eq_zero h
  have hd : cDot s = false := by unfold cDot; rw [h0]; rfl
  have hg : cGo s = false := by unfold cGo; rw [h0]; rfl
  refine ⟨?_, ?_, ?_, ?_, ?_⟩
  · unfold cPt; rw [hd]; rfl
  · unfold cNP; rw [hg]; rfl
  · unfold cDP; rw [hg]; rfl
  · unfold cAt; rw [hg]; unfold cK4; rw [hd]; rfl
  · unfold cOk; rw [hg]; rfl
theorem way_go {s : List UInt8} (h : cGo s = true) : cNP s = cpN (cHx s) s (cK4 s) ∧ cDP s = cpD (cHx s) s (cK4 s) ∧ cAt s = cpK (cHx s) s (cK4 s) ∧ cOk s = cpO (cHx s) s (cK4 s) := by
  refine ⟨?_, ?_, ?_, ?_⟩
  · unfold cNP; rw [h]; rfl
  · unfold cDP; rw [h]; rfl
  · unfold cAt; rw [h]; rfl
  · unfold cOk; rw [h]; rfl
theorem way_C {s : List UInt8} (h : (cWh s).length ≠ 0) (hd : Lib.hasPrefix (s.drop (cK3 s)) [46] = false) : cPt s = [] ∧ cK4 s = cK3 s ∧ cGo s = true := by
  have h0 : (cWh s == []) = false := by
    rw [beq_eq_false_iff_ne]
    intro e
    rw [e] at h
    exact h rfl
  have hd' : cDot s = false := by unfold cDot; rw [hd, Bool.and_false]
  refine ⟨?_, ?_, ?_⟩
  · unfold cPt; rw [hd']; rfl
  · unfold cK4; rw [hd']; rfl
  · unfold cGo; rw [h0, hd']; rfl
theorem way_dot {s : List UInt8} (h : (cWh s).length ≠ 0) (hd : Lib.hasPrefix (s.drop (cK3 s)) [46] = true) : cDot s = true ∧ cPt s = (s.drop (cK3 s + 1)).takeWhile (isX (cHx s)) ∧ cK4 s = cK3 s + 1 + (cPt s).length ∧ cGo s = !(cPt s == []) := by
  have h0 : (cWh s == []) = false := by
    rw [beq_eq_false_iff_ne]
    intro e
    rw [e] at h
    exact h rfl
  have hd' : cDot s = true := by unfold cDot; rw [hd, h0]; rfl
  refine ⟨hd', ?_, ?_, ?_⟩
  · unfold cPt; rw [hd']; rfl
  · unfold cK4; rw [hd']; rfl
  · unfold cGo; rw [h0, hd']; rfl
theorem way_B {s : List UInt8} (h : cGo s = false) : cNP s = false ∧ cDP s = [] ∧ cAt s = cK4 s ∧ cOk s = false := by
  refine ⟨?_, ?_, ?_, ?_⟩
  · unfold cNP; rw [h]; rfl
  · unfold cDP; rw [h]; rfl
  · unfold cAt; rw [h]; rfl
  · unfold cOk; rw [h]; rfl
theorem Keep.a3 (w : World) (a b c : Obj) : Keep w ((((w.alloc a).alloc b).alloc c).drew) := ((((Keep.refl w).alloc a).alloc b).alloc c).drew
theorem Sp.a3 (w : World) (b c : Obj) (v : Array Value) : Sp ((((w.alloc (.cells v 62)).alloc b).alloc c).drew) w.heap.size v :=
  ((Sp.new w v).keep (((Keep.refl _).alloc b).alloc c)).drew
theorem Keep.a4 (w : World) (a b c d : Obj) : Keep w (((((w.alloc a).alloc b).alloc c).drew.alloc d).drew) := (((((Keep.refl w).alloc a).alloc b).alloc c).drew.alloc d).drew
theorem Sp.a4 (w : World) (b c d : Obj) (v : Array Value) : Sp (((((w.alloc (.cells v 62)).alloc b).alloc c).drew.alloc d).drew) w.heap.size v :=
  (((Sp.new w v).keep (((((Keep.refl _).alloc b).alloc c).drew).alloc d))).drew
abbrev zSp : Obj := .cells #[.bool false, .bool false, .string ⟨#[]⟩, .string ⟨#[]⟩, .bool false, .string ⟨#[]⟩] 62
set_option maxRecDepth 100000 in
set_option maxHeartbeats 2000000 in
theorem cut_any (s : List UInt8) (w : World) (hs : s.length ≤ 4096) :
    Calls Tryd.prog 28 #[.string ⟨s.toArray⟩] w fun e w' =>
      e = .returned (.tuple #[.agg #[.bool (cNg s), .bool (cHx s), .string ⟨(cWh s).toArray⟩, .string ⟨(cPt s).toArray⟩, .bool (cNP s), .string ⟨(cDP s).toArray⟩], .int .i64 (cAt s : Nat), .bool (cOk s)]) ∧ Keep w w' := by
  have hP1 := fun wx => pre_any s [45] wx
  have hP2 := fun wx => pre_any (s.drop (cK1 s)) [48, 120] wx
  have hf1 := fun wx => run_from s (cK1 s) (cK1_le s) wx
  have hf2 := fun wx => run_from s (cK2 s) (cK2_le s) wx
  have l1 := cK1_le s
  have l2 := cK2_le s
  have l3 := cK3_le s
  have H1 : Hid (cK1 s = if cNg s then 1 else 0) := rfl
  have H2 : Hid (cK2 s = cK1 s + if cHx s then 2 else 0) := rfl
  rw [show Lib.hasPrefix s [45] = cNg s from rfl] at hP1
  rw [show Lib.hasPrefix (s.drop (cK1 s)) [48, 120] = cHx s from rfl] at hP2
  obtain ⟨ng, hng⟩ : ∃ ng, cNg s = ng := ⟨_, rfl⟩
  obtain ⟨hx, hhx⟩ : ∃ hx, cHx s = hx := ⟨_, rfl⟩
  obtain ⟨K1, hK1⟩ : ∃ K1, cK1 s = K1 := ⟨_, rfl⟩
  obtain ⟨K2, hK2⟩ : ∃ K2, cK2 s = K2 := ⟨_, rfl⟩
  rw [hng] at hP1
  rw [hhx] at hP2
  rw [hK1] at hP2 hf1
  rw [hK2] at hf2
  rw [hK1, hng] at H1
  rw [hK2, hK1, hhx] at H2
  have HN : Hid (cNg s = ng) := hng
  have HX : Hid (cHx s = hx) := hhx
  have HK2 : Hid (cK2 s = K2) := hK2
  have b1 : K1 ≤ 4096 := by omega
  have b2 : K2 ≤ 4096 := by omega
  clear hng hhx hK1 hK2 l1 l2
  have t1 : True := trivial
  go_enter Tryd.func28, Tryd.ntmps28
  go_upto_if 12 with (go_at_call 49; clear t1; refine (hP1 _).mono ?_; rintro e wz ⟨rfl, hz⟩; rw [hz]; clear hz)
  go_cut [6] from 13 to 14 (fun s6 wx => s6 = .int .i64 (K1 : Int) ∧ wx = (w.alloc zSp).alloc (.cells #[.bool ng, .bool false, .string ⟨#[]⟩, .string ⟨#[]⟩, .bool false, .string ⟨#[]⟩] 62))
  case first =>
    cases ng
    · go_wp2_with fail
      go_meet
      case rel => exact ⟨by rw [H1.out]; rfl, rfl⟩
    · go_wp2_with fail
      go_meet
      case rel => exact ⟨by rw [H1.out]; rfl, rfl⟩
  case rest =>
    obtain ⟨rfl, rfl⟩ := hcut
    clear hP1
    go_upto_if 21 with (go_at_call 49; refine (hP2 _).mono ?_; rintro e wz ⟨rfl, hz⟩; rw [hz]; clear hz)
    go_cut [6] from 22 to 23 (fun s6 wx => s6 = .int .i64 (K2 : Int) ∧ wx = (w.alloc zSp).alloc (.cells #[.bool ng, .bool hx, .string ⟨#[]⟩, .string ⟨#[]⟩, .bool false, .string ⟨#[]⟩] 62))
    case first =>
      cases hx
      · go_wp2_with fail
        go_meet
        case rel => exact ⟨by rw [H2.out]; rfl, rfl⟩
      · go_wp2_with fail
        go_meet
        case rel => exact ⟨by rw [H2.out]; rfl, rfl⟩
    case rest =>
      obtain ⟨rfl, rfl⟩ := hcut
      clear hP2 hf1
      have hD1 := fun wx => digitRun_any (s.drop K2) hx wx (by rw [List.length_drop]; omega)
      have e1 : (s.drop K2).takeWhile (isX hx) = cWh s := by unfold cWh; rw [HX.out, HK2.out]
      obtain ⟨u1, u2⟩ := tw_cut (isX hx) s K2
      rw [e1] at hD1 u1 u2
      have u3 := u2 (by rw [← HK2.out]; exact cK2_le s)
      have hK3 : cK3 s = K2 + (cWh s).length := by unfold cK3; rw [HK2.out]
      have hct1 : ∀ wx, (Instr.slice 9 (.string ⟨s.toArray⟩) (some (.int .i64 (K2 : Int))) (some (.int .i64 ((K2 : Int) + ((cWh s).length : Int)))) none).run Tryd.prog wx = .ok (.string ⟨(cWh s).toArray⟩) wx := fun wx => by
        have := run_cut s K2 (K2 + (cWh s).length) (by omega) u3 wx
        rw [u1, show (((K2 + (cWh s).length : Nat)) : Int) = (K2 : Int) + ((cWh s).length : Int) by omega] at this
        exact this
      obtain ⟨sd, hsd⟩ : ∃ sd, s.drop K2 = sd := ⟨_, rfl⟩
      rw [hsd] at hD1 hf2
      obtain ⟨wh, hwh⟩ : ∃ wh, cWh s = wh := ⟨_, rfl⟩
      obtain ⟨n1, hn1⟩ : ∃ n1, (cWh s).length = n1 := ⟨_, rfl⟩
      rw [hn1] at hD1 hct1 hK3 u3
      rw [hwh] at hct1
      have HW : Hid (cWh s = wh) := hwh
      have HL1 : Hid ((cWh s).length = n1) := hn1
      have HK3 : Hid (cK3 s = K2 + n1) := hK3
      have b3 : K2 + n1 ≤ 4096 := by omega
      clear e1 u1 u2 hsd hwh hn1 hK3 l3
      go_upto_region 8 with fail
      go_region_with (go_at_call 50; refine (hD1 _).mono ?_; rintro e w2 ⟨rfl, p1, rfl⟩)
      go_simp
      by_cases z1 : n1 = 0
      · have y1 : ((n1 : Int) == 0) = true := by rw [z1]; rfl
        have Hz : Hid (n1 = 0) := z1
        clear z1
        go_wp2_with fail
        obtain ⟨a1, a2, a3, a4, a5⟩ := way_A (s := s) (by rw [HL1.out]; exact Hz.out)
        exact bodyPost_ret (results_sp rfl _ _ w.heap.size _ _ _ _ _ _ rfl (Sp.a3 w _ _ _)) rfl ⟨by rw [HN.out, HX.out, HW.out, a1, a2, a3, a4, a5, HK3.out]; rfl, Keep.a3 w _ _ _⟩
      · have y1 : ((n1 : Int) == 0) = false := by rw [beq_eq_false_iff_ne]; omega
        have Hz : Hid ((cWh s).length ≠ 0) := by unfold Hid; rw [HL1.out]; exact z1
        clear z1
        have hf3 : ∀ wx, (Instr.slice 9 (.string ⟨s.toArray⟩) (some (.int .i64 ((K2 : Int) + (n1 : Int)))) none none).run Tryd.prog wx = .ok (.string ⟨(s.drop (K2 + n1)).toArray⟩) wx := fun wx => run_from s (K2 + n1) u3 wx
        have hP3 := fun wx => pre_any (s.drop (K2 + n1)) [46] wx
        obtain ⟨d, hd⟩ : ∃ d, Lib.hasPrefix (s.drop (K2 + n1)) [46] = d := ⟨_, rfl⟩
        rw [hd] at hP3
        cases d
        · obtain ⟨a1, a2, a3⟩ := way_C Hz.out (by rw [HK3.out]; exact hd)
          obtain ⟨q1, q2, q3, q4⟩ := way_go a3
          rw [a2, HK3.out, HX.out] at q1 q2 q3 q4
          have hC : ∀ wx, Calls Tryd.prog 51 #[.agg #[.bool ng, .bool hx, .string ⟨wh.toArray⟩, .string ⟨#[]⟩, .bool false, .string ⟨#[]⟩], .string ⟨s.toArray⟩, .int .i64 ((K2 : Int) + (n1 : Int))] wx fun e w' =>
              e = .returned (.tuple #[.agg #[.bool ng, .bool hx, .string ⟨wh.toArray⟩, .string ⟨#[]⟩, .bool (cNP s), .string ⟨(cDP s).toArray⟩], .int .i64 (cAt s : Nat), .bool (cOk s)]) ∧ Keep wx w' := fun wx => by
            rw [q1, q2, q3, q4]
            exact cutPower_any ng hx wh [] s (K2 + n1) wx hs u3
          have A1 : Hid (cPt s = []) := a1
          clear a1 a2 a3 q1 q2 q3 q4 hd hD1
          go_wp2_with (go_at_call 49; refine (hP3 _).mono ?_; rintro e wz ⟨rfl, hz⟩; rw [hz]; clear hz)
          refine (hC _).mono ?_
          rintro e w5 ⟨rfl, k5⟩
          have B5 := (((Sp.new w #[.bool false, .bool false, .string ⟨#[]⟩, .string ⟨#[]⟩, .bool false, .string ⟨#[]⟩]).keep ((Keep.refl _).alloc _)).keep ((Keep.refl _).alloc _)).drew.keep k5
          have K5 := (Keep.a3 w _ _ _).trans k5
          obtain ⟨f0, f1, f2, f3, f4, f5⟩ := B5.frs
          obtain ⟨d0, d1, d2, d3, d4, d5⟩ := B5.six
          have HB5 : Hid (Sp w5 w.heap.size #[.bool false, .bool false, .string ⟨#[]⟩, .string ⟨#[]⟩, .bool false, .string ⟨#[]⟩]) := B5
          have HK5 : Hid (Keep w w5) := K5
          clear B5 K5 k5 hC hP3
          go_wp2_with fail
          exact bodyPost_ret (results_sp rfl _ _ w.heap.size _ _ _ _ _ _ rfl (HB5.out.all6 _ _ _ _ _ _)) rfl ⟨by rw [HN.out, HX.out, HW.out, A1.out]; rfl, HK5.out.all6 (Nat.le_refl _) _ _ _ _ _ _⟩
        · obtain ⟨a1, a2, a3, a4⟩ := way_dot Hz.out (by rw [HK3.out]; exact hd)
          have l4 : K2 + n1 + 1 ≤ s.length := by rw [← HK3.out]; exact cDot_lt a1
          rw [HK3.out, HX.out] at a2
          rw [HK3.out] at a3
          have hf4 : ∀ wx, (Instr.slice 9 (.string ⟨s.toArray⟩) (some (.int .i64 ((K2 : Int) + (n1 : Int) + 1))) none none).run Tryd.prog wx = .ok (.string ⟨(s.drop (K2 + n1 + 1)).toArray⟩) wx := fun wx => run_from s (K2 + n1 + 1) l4 wx
          have hD2 := fun wx => digitRun_any (s.drop (K2 + n1 + 1)) hx wx (by rw [List.length_drop]; omega)
          rw [← a2] at hD2
          obtain ⟨v1, v2⟩ := tw_cut (isX hx) s (K2 + n1 + 1)
          rw [← a2] at v1 v2
          have v3 := v2 l4
          have hct2 : ∀ wx, (Instr.slice 9 (.string ⟨s.toArray⟩) (some (.int .i64 ((K2 : Int) + (n1 : Int) + 1))) (some (.int .i64 ((K2 : Int) + (n1 : Int) + 1 + ((cPt s).length : Int)))) none).run Tryd.prog wx = .ok (.string ⟨(cPt s).toArray⟩) wx := fun wx => by
            have := run_cut s (K2 + n1 + 1) (K2 + n1 + 1 + (cPt s).length) (by omega) v3 wx
            rw [v1] at this
            exact this
          obtain ⟨sd2, hsd2⟩ : ∃ sd2, s.drop (K2 + n1 + 1) = sd2 := ⟨_, rfl⟩
          rw [hsd2] at hD2 hf4
          obtain ⟨n2, hn2⟩ : ∃ n2, (cPt s).length = n2 := ⟨_, rfl⟩
          obtain ⟨pt, hpt⟩ : ∃ pt, cPt s = pt := ⟨_, rfl⟩
          rw [hn2] at hD2 hct2 v3 a3
          rw [hpt] at hct2
          have b4 : K2 + n1 + 1 + n2 ≤ 4096 := by omega
          have HP : Hid (cPt s = pt) := hpt
          have HL2 : Hid ((cPt s).length = n2) := hn2
          have HK4 : Hid (cK4 s = K2 + n1 + 1 + n2) := a3
          have HG : Hid (cGo s = !(cPt s == [])) := a4
          have Hsd : Hid (s.drop (K2 + n1) = s.drop (K2 + n1)) := rfl
          clear a1 a2 a3 a4 v1 v2 hsd2 hn2 hpt hd hD1
          generalize s.drop (K2 + n1) = sd1 at hf3 hP3
          go_upto_region 14 with (go_at_call 49; refine (hP3 _).mono ?_; rintro e wz ⟨rfl, hz⟩; rw [hz]; clear hz)
          go_region_with (go_at_call 50; refine (hD2 _).mono ?_; rintro e w4 ⟨rfl, p2, rfl⟩)
          go_simp
          by_cases z2 : n2 = 0
          · have y2 : ((n2 : Int) == 0) = true := by rw [z2]; rfl
            have hg : cGo s = false := by
              rw [HG.out, List.eq_nil_of_length_eq_zero (HL2.out.trans z2)]; rfl
            obtain ⟨q1, q2, q3, q4⟩ := way_B hg
            rw [HK4.out] at q3
            have Q1 : Hid (cNP s = false ∧ cDP s = [] ∧ cAt s = K2 + n1 + 1 + n2 ∧ cOk s = false) := ⟨q1, q2, q3, q4⟩
            clear z2 q1 q2 q3 q4 hg
            go_wp2_with fail
            exact bodyPost_ret (results_sp rfl _ _ w.heap.size _ _ _ _ _ _ rfl (Sp.a4 w _ _ _ _)) rfl ⟨by rw [HN.out, HX.out, HW.out, HP.out, Q1.out.1, Q1.out.2.1, Q1.out.2.2.1, Q1.out.2.2.2]; rfl, Keep.a4 w _ _ _ _⟩
          · have y2 : ((n2 : Int) == 0) = false := by rw [beq_eq_false_iff_ne]; omega
            have hg : cGo s = true := by
              rw [HG.out]
              have : (cPt s == []) = false := by
                rw [beq_eq_false_iff_ne]
                intro e
                have := HL2.out
                rw [e] at this
                exact z2 this.symm
              rw [this]; rfl
            obtain ⟨q1, q2, q3, q4⟩ := way_go hg
            rw [HK4.out, HX.out] at q1 q2 q3 q4
            have hC : ∀ wx, Calls Tryd.prog 51 #[.agg #[.bool ng, .bool hx, .string ⟨wh.toArray⟩, .string ⟨pt.toArray⟩, .bool false, .string ⟨#[]⟩], .string ⟨s.toArray⟩, .int .i64 ((K2 : Int) + (n1 : Int) + 1 + (n2 : Int))] wx fun e w' =>
                e = .returned (.tuple #[.agg #[.bool ng, .bool hx, .string ⟨wh.toArray⟩, .string ⟨pt.toArray⟩, .bool (cNP s), .string ⟨(cDP s).toArray⟩], .int .i64 (cAt s : Nat), .bool (cOk s)]) ∧ Keep wx w' := fun wx => by
              rw [q1, q2, q3, q4]
              exact cutPower_any ng hx wh pt s (K2 + n1 + 1 + n2) wx hs v3
            clear z2 q1 q2 q3 q4 hg
            go_wp2_with fail
            refine (hC _).mono ?_
            rintro e w5 ⟨rfl, k5⟩
            have B5 := (((((Sp.new w #[.bool false, .bool false, .string ⟨#[]⟩, .string ⟨#[]⟩, .bool false, .string ⟨#[]⟩]).keep ((Keep.refl _).alloc _)).keep ((Keep.refl _).alloc _)).drew.keep ((Keep.refl _).alloc _)).drew).keep k5
            have K5 := (Keep.a4 w _ _ _ _).trans k5
            obtain ⟨f0, f1, f2, f3, f4, f5⟩ := B5.frs
            obtain ⟨d0, d1, d2, d3, d4, d5⟩ := B5.six
            have HB5 : Hid (Sp w5 w.heap.size #[.bool false, .bool false, .string ⟨#[]⟩, .string ⟨#[]⟩, .bool false, .string ⟨#[]⟩]) := B5
            have HK5 : Hid (Keep w w5) := K5
            clear B5 K5 k5 hC hP3
            go_wp2_with fail
            exact bodyPost_ret (results_sp rfl _ _ w.heap.size _ _ _ _ _ _ rfl (HB5.out.all6 _ _ _ _ _ _)) rfl ⟨by rw [HN.out, HX.out, HW.out, HP.out]; rfl, HK5.out.all6 (Nat.le_refl _) _ _ _ _ _ _⟩
end Go.Proofs.YtpdjpjkieafnbaaDoor.Li
