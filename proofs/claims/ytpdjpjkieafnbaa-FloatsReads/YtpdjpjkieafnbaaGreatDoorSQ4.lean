import Derived.Test.YtpdjpjkieafnbaaGreatDoorSQ3
import Derived.Deep.CutRange
set_option linter.unusedVariables false
set_option linter.unusedSimpArgs false
namespace Go.Proofs.YtpdjpjkieafnbaaGreatDoor.Li
open Go.RowKit Go.Shelf Lb
set_option maxRecDepth 100000 in
set_option maxHeartbeats 2000000 in
theorem Split_num (s : List UInt8) (w : World) (hs : s.length ≤ 4096) (hwd : cWd s = false) :
    Calls Tryz.prog 46 #[.string ⟨s.toArray⟩] w fun e w' => (∃ T V, e = .returned (.tuple #[.agg T, .int .i64 V]) ∧ SpA s T V) ∧ Keep w w' := by
  have s1 : (ByteArray.mk s.toArray).size = s.length := sz_mk s
  obtain ⟨L, hL⟩ : ∃ L, s.length = L := ⟨_, rfl⟩
  obtain ⟨K, hK⟩ : ∃ K, cK1 s = K := ⟨_, rfl⟩
  obtain ⟨ng, hng⟩ : ∃ b, cNg s = b := ⟨_, rfl⟩
  have HKL : Hid (K ≤ L) := by have := cK1_le s; rw [hK, hL] at this; exact this
  have hK01 : Hid ((if ng then 1 else 0) = K) := by rw [← hng, ← hK]; rfl
  have HI : Hid (K < L → s.getD K 0 ≠ 105 ∧ (s.getD K 0 = 110 → ng = true)) := by
    intro hl
    have a := of_decide_eq_false hwd
    rw [hK, hL, hng] at a
    refine ⟨fun q => a ⟨hl, .inl q⟩, fun q => ?_⟩
    cases ng with
    | true => rfl
    | false => exact absurd ⟨hl, .inr ⟨q, rfl⟩⟩ a
  rw [hL] at s1 hs
  have HW : Hid (cWd s = false) := hwd
  have HL : Hid (s.length = L) := hL
  have HK : Hid (cK1 s = K) := hK
  have HN : Hid (cNg s = ng) := hng
  have hs2 : Hid (L ≤ 4096) := hs
  clear hwd hL hK hng hs
  go_enter Tryz.func46, Tryz.ntmps46
  go_upto_region 3 with fail
  go_cut [20] from 13 to 19 (fun s20 wx => s20 = .bool ng ∧ wx = (w.alloc (.cells #[.bool false, .bool false, .bool false, .int .u64 0, .int .i64 0, .bool false, .bool false, .bool false, .string ⟨#[]⟩, .string ⟨#[]⟩, .string ⟨#[]⟩] 89)).alloc (.cells #[.bool false, .bool false, .bool false, .int .u64 0, .int .i64 0, .bool false, .bool false, .bool false, .string ⟨#[]⟩, .string ⟨#[]⟩, .string ⟨#[]⟩] 89))
  case first =>
    have e1 : cNg s = tk s [45] 0 := pre_zero s 45
    by_cases h0 : L = 0
    · subst h0
      have e0 : Hid (ng = false) := by
        rw [← HN.out]
        unfold Hid
        rw [e1]
        exact tkx_end (by rw [HL.out]; omega) _
      clear e1
      go_wp2_with fail
      go_meet
      case rel => exact ⟨by rw [e0.out], rfl⟩
    · have h1 : (0 : Int) < (L : Int) := by omega
      have hix0 : ∀ wx, (Instr.index 9 (.string ⟨s.toArray⟩) (.int .i64 0)).run Tryz.prog wx = .ok (.int .u8 ((s.getD 0 0).toNat : Nat)) wx := fun wx => run_ix s 0 (by have := HL.out; omega) wx
      have hcb : (((s.getD 0 0).toNat : Int) == 45) = ng := by
        rw [← HN.out, e1, tkx_at (s := s) (k := 0) (by rw [HL.out]; omega)]
        exact byt1 _ 45 45 rfl
      obtain ⟨c0, hc0⟩ : ∃ c0, (s.getD 0 0).toNat = c0 := ⟨_, rfl⟩
      rw [hc0] at hix0 hcb
      clear hc0 e1
      go_wp2_with fail
      go_meet
      case rel => exact ⟨rfl, rfl⟩
  case rest =>
    obtain ⟨rfl, rfl⟩ := hcut
    go_upto_if 20 with fail
    go_cut [5] from 20 to 21 (fun s5 wx => s5 = .int .i64 (K : Int) ∧ wx = (w.alloc (.cells #[.bool false, .bool false, .bool false, .int .u64 0, .int .i64 0, .bool false, .bool false, .bool false, .string ⟨#[]⟩, .string ⟨#[]⟩, .string ⟨#[]⟩] 89)).alloc (.cells #[.bool false, .bool false, .bool false, .int .u64 0, .int .i64 0, .bool false, .bool ng, .bool false, .string ⟨#[]⟩, .string ⟨#[]⟩, .string ⟨#[]⟩] 89))
    case first =>
      cases ng with
      | true =>
        have e1 : Hid (1 = K) := by have := hK01.out; simp only [if_true, Bool.false_eq_true, if_false] at this; exact this
        go_wp2_with fail
        go_meet
        case rel => exact ⟨by rw [← e1.out]; rfl, rfl⟩
      | false =>
        have e1 : Hid (0 = K) := by have := hK01.out; simp only [if_true, Bool.false_eq_true, if_false] at this; exact this
        go_wp2_with fail
        go_meet
        case rel => exact ⟨by rw [← e1.out]; rfl, rfl⟩
    case rest =>
      obtain ⟨rfl, rfl⟩ := hcut
      go_upto_region 6 with fail
      go_cut [42] from 22 to 41 (fun s42 wx => s42 = .bool false ∧ wx = (w.alloc (.cells #[.bool false, .bool false, .bool false, .int .u64 0, .int .i64 0, .bool false, .bool false, .bool false, .string ⟨#[]⟩, .string ⟨#[]⟩, .string ⟨#[]⟩] 89)).alloc (.cells #[.bool false, .bool false, .bool false, .int .u64 0, .int .i64 0, .bool false, .bool ng, .bool false, .string ⟨#[]⟩, .string ⟨#[]⟩, .string ⟨#[]⟩] 89))
      case first =>
        by_cases hl : K < L
        · have hl2 : (K : Int) < (L : Int) := by omega
          have hix := fun wx => run_ix s K (by have := HL.out; omega) wx
          obtain ⟨hi, hn⟩ := HI.out hl
          obtain ⟨c, hc⟩ : ∃ c, s.getD K 0 = c := ⟨_, rfl⟩
          rw [hc] at hix hi hn
          have hi2 : ((c.toNat : Int) == 105) = false := by rw [byt1 c 105 105 rfl]; exact decide_eq_false (by simpa using hi)
          by_cases q : c = 110
          · have e2 : ng = true := hn q
            have hn2 : ((c.toNat : Int) == 110) = true := by rw [byt1 c 110 110 rfl]; exact decide_eq_true (by simpa using q)
            clear hc hi hn q
            generalize (c.toNat : Int) = ci at *
            subst e2
            go_wp2_with fail
            go_meet
            case rel => exact ⟨rfl, rfl⟩
          · have hn2 : ((c.toNat : Int) == 110) = false := by rw [byt1 c 110 110 rfl]; exact decide_eq_false (by simpa using q)
            clear hc hi hn q
            generalize (c.toNat : Int) = ci at *
            go_wp2_with fail
            go_meet
            case rel => exact ⟨rfl, rfl⟩
        · have hl2 : ¬ (K : Int) < (L : Int) := by omega
          go_wp2_with fail
          go_meet
          case rel => exact ⟨rfl, rfl⟩
      case rest =>
        obtain ⟨rfl, rfl⟩ := hcut
        obtain ⟨hx, hhx⟩ : ∃ b, cHx s = b := ⟨_, rfl⟩
        have HX : Hid (cHx s = hx) := hhx
        have HX2 : Hid (hx = (tk s [48] K && tk s [120] (K + 1))) := by
          unfold Hid
          rw [← hhx]
          unfold cHx
          rw [pre_twice, HK.out]
        clear hhx
        go_upto_region 18 with fail
        go_cut [89] from 72 to 88 (fun s89 wx => s89 = .bool hx ∧ wx = (w.alloc (.cells #[.bool false, .bool false, .bool false, .int .u64 0, .int .i64 0, .bool false, .bool false, .bool false, .string ⟨#[]⟩, .string ⟨#[]⟩, .string ⟨#[]⟩] 89)).alloc (.cells #[.bool false, .bool false, .bool false, .int .u64 0, .int .i64 0, .bool false, .bool ng, .bool false, .string ⟨#[]⟩, .string ⟨#[]⟩, .string ⟨#[]⟩] 89))
        case first =>
          have wr1 : IntKind.i64.wrap ((K : Int) + 1) = (K : Int) + 1 := by rw [IntWalk.i64_left]; exact IntWalk.wrap64_in _ (by have := hs2.out; have := HKL.out; omega)
          by_cases hl : K + 1 < L
          · have hl2 : (K : Int) + 1 < (L : Int) := by omega
            have hix := fun wx => run_ix s K (by have := HL.out; omega) wx
            have hix1 : ∀ wx, (Instr.index 9 (.string ⟨s.toArray⟩) (.int .i64 ((K : Int) + 1))).run Tryz.prog wx = .ok (.int .u8 ((s.getD (K + 1) 0).toNat : Nat)) wx := fun wx => run_ix s (K + 1) (by have := HL.out; omega) wx
            have e2 : hx = ((((s.getD K 0).toNat : Int) == 48) && (((s.getD (K + 1) 0).toNat : Int) == 120)) := by
              rw [byt1 _ 48 48 rfl, byt1 _ 120 120 rfl, HX2.out, tkx_at (s := s) (k := K) (by rw [HL.out]; omega), tkx_at (s := s) (k := K + 1) (by rw [HL.out]; omega)]
            obtain ⟨c, hc⟩ : ∃ c, (s.getD K 0).toNat = c := ⟨_, rfl⟩
            obtain ⟨d, hd⟩ : ∃ d, (s.getD (K + 1) 0).toNat = d := ⟨_, rfl⟩
            rw [hc] at hix e2
            rw [hd] at hix1 e2
            obtain ⟨b1, hb1⟩ : ∃ b, ((c : Int) == 48) = b := ⟨_, rfl⟩
            obtain ⟨b2, hb2⟩ : ∃ b, ((d : Int) == 120) = b := ⟨_, rfl⟩
            rw [hb1, hb2] at e2
            have E2 : Hid (hx = (b1 && b2)) := e2
            clear hc hd e2
            cases b1 <;> cases b2 <;> (go_wp2_with fail; go_meet; case rel => exact ⟨by rw [E2.out]; rfl, rfl⟩)
          · have hl2 : ¬ (K : Int) + 1 < (L : Int) := by omega
            have E2 : Hid (hx = false) := by
              unfold Hid
              rw [HX2.out, tkx_end (k := K + 1) (by rw [HL.out]; omega), Bool.and_false]
            go_wp2_with fail
            go_meet
            case rel => exact ⟨by rw [E2.out], rfl⟩
        case rest =>
          obtain ⟨rfl, rfl⟩ := hcut
          obtain ⟨k2, hk2⟩ : ∃ x, cK2 s = x := ⟨_, rfl⟩
          have H2 : Hid (cK2 s = k2) := hk2
          have H2x : Hid (K + (if hx then 2 else 0) = k2) := by
            unfold Hid
            rw [← hk2]
            unfold cK2
            rw [HX.out, HK.out]
          obtain ⟨lt, hlt⟩ : ∃ x : Nat, (if hx then 112 else 101) = x := ⟨_, rfl⟩
          have HLt : Hid ((if hx then 112 else 101) = lt) := hlt
          have HK2 : Hid (k2 ≤ L) := by have := cK2_le s; rw [hk2, HL.out] at this; exact this
          clear hk2 hlt
          go_upto_if 89 with fail
          go_cut [5, 8] from 89 to 92 (fun s5 s8 wx => s5 = .int .i64 (k2 : Int) ∧ s8 = .int .u8 (lt : Int) ∧ wx = (w.alloc (.cells #[.bool false, .bool false, .bool false, .int .u64 0, .int .i64 0, .bool false, .bool false, .bool false, .string ⟨#[]⟩, .string ⟨#[]⟩, .string ⟨#[]⟩] 89)).alloc (.cells #[.bool false, .bool false, .bool false, .int .u64 0, .int .i64 0, .bool false, .bool ng, .bool hx, .string ⟨#[]⟩, .string ⟨#[]⟩, .string ⟨#[]⟩] 89))
          case first =>
            cases hx with
            | true =>
              have e1 : Hid (k2 = K + 2) := by have := H2x.out; simp only [if_true] at this; exact this.symm
              have e2 : Hid (lt = 112) := by have := HLt.out; simp only [if_true] at this; exact this.symm
              have wr2 : IntKind.i64.wrap ((K : Int) + 2) = (K : Int) + 2 := by rw [IntWalk.i64_left]; exact IntWalk.wrap64_in _ (by have := hs2.out; have := HKL.out; omega)
              go_wp2_with fail
              go_meet
              case rel => exact ⟨by rw [e1.out]; rfl, by rw [e2.out]; rfl, rfl⟩
            | false =>
              have e1 : Hid (k2 = K) := by have := H2x.out; simp only [Bool.false_eq_true, if_false] at this; exact this.symm
              have e2 : Hid (lt = 101) := by have := HLt.out; simp only [Bool.false_eq_true, if_false] at this; exact this.symm
              go_wp2_with fail
              go_meet
              case rel => exact ⟨by rw [e1.out], by rw [e2.out]; rfl, rfl⟩
          case rest =>
            obtain ⟨rfl, rfl, rfl⟩ := hcut
            obtain ⟨wh, hwh⟩ : ∃ x, cWh s = x := ⟨_, rfl⟩
            obtain ⟨k3, hk3⟩ : ∃ x, cK3 s = x := ⟨_, rfl⟩
            have H1 : Hid (cWh s = wh) := hwh
            have H3 : Hid (cK3 s = k3) := hk3
            have HK3 : Hid (k2 ≤ k3 ∧ k3 ≤ L) := by
              have a := cK3_le s
              rw [hk3, HL.out] at a
              refine ⟨?_, a⟩
              rw [← hk3, ← H2.out]
              exact Nat.le_add_right _ _
            have ew : (s.drop k2).takeWhile (isX hx) = wh := by rw [← hwh, ← H2.out, ← HX.out]; rfl
            have ek : k2 + ((s.drop k2).takeWhile (isX hx)).length = k3 := by rw [ew, ← hk3, ← hwh, ← H2.out]; rfl
            have el : k2 + wh.length = k3 := by rw [← ew]; exact ek
            cases ok1 : decide (k2 < k3) with
            | false =>
              have hR1 := fun wx => urun_any hx s k2 wx (by rw [HL.out]; exact hs2.out) (by rw [HL.out]; exact HK2.out) k3 ek false ok1
              have O0 : Hid (wh.length = 0) := by have := of_decide_eq_false ok1; unfold Hid; omega
              clear ok1 ew ek el hwh hk3
              go_wp2_with (go_at_call 92; refine (hR1 _).mono ?_; rintro e w2 ⟨rfl, rfl⟩)
              obtain ⟨-, -, -, g1, g2⟩ := way_A (s := s) (by rw [H1.out]; exact O0.out)
              exact bodyPost_ret (results_box11 rfl _ _ w.heap.size _ _ _ _ _ _ _ _ _ _ _ rfl (Bk.two w _ _)) rfl ⟨⟨_, _, rfl, sp_bad HW.out g2 (by rw [g1, H3.out]) ⟨_, _, _, _, _, _, _, _, _, rfl⟩⟩, keep_two w _ _⟩
            | true =>
              have hR1 := fun wx => urun_any hx s k2 wx (by rw [HL.out]; exact hs2.out) (by rw [HL.out]; exact HK2.out) k3 ek true ok1
              have hcut1 : ∀ wx, (Instr.slice 9 (.string ⟨s.toArray⟩) (some (.int .i64 (k2 : Int))) (some (.int .i64 (k3 : Int))) none).run Tryz.prog wx = .ok (.string ⟨wh.toArray⟩) wx := fun wx => by
                have a := run_cut s k2 k3 HK3.out.1 (by rw [HL.out]; exact HK3.out.2) wx
                have b := (tw_cut (isX hx) s k2).1
                rw [ek, ew] at b
                rw [b] at a
                exact a
              have O1 : Hid (wh.length ≠ 0) := by have := of_decide_eq_true ok1; unfold Hid; omega
              clear ok1 ew ek el hwh hk3
              go_upto_region 27 with (go_at_call 92; refine (hR1 _).mono ?_; rintro e w2 ⟨rfl, rfl⟩)
              obtain ⟨dot, hdot⟩ : ∃ b, tk s [46] k3 = b := ⟨_, rfl⟩
              have HD : Hid (tk s [46] k3 = dot) := hdot
              have HPD : Hid (Lib.hasPrefix (s.drop (cK3 s)) [46] = dot) := by
                unfold Hid
                rw [pre_one, H3.out, hdot]
              clear hdot hR1 hcut1
              go_cut [120] from 111 to 119 (fun s120 wx => s120 = .bool dot ∧ wx = (w.alloc (.cells #[.bool false, .bool false, .bool false, .int .u64 0, .int .i64 0, .bool false, .bool false, .bool false, .string ⟨#[]⟩, .string ⟨#[]⟩, .string ⟨#[]⟩] 89)).alloc (.cells #[.bool false, .bool false, .bool false, .int .u64 0, .int .i64 0, .bool false, .bool ng, .bool hx, .string ⟨wh.toArray⟩, .string ⟨#[]⟩, .string ⟨#[]⟩] 89))
              case first =>
                by_cases hl : k3 < L
                · have hl2 : (k3 : Int) < (L : Int) := by omega
                  have hix := fun wx => run_ix s k3 (by have := HL.out; omega) wx
                  have hcb : (((s.getD k3 0).toNat : Int) == 46) = dot := by
                    rw [← HD.out, tkx_at (by rw [HL.out]; exact hl)]
                    exact byt1 _ 46 46 rfl
                  obtain ⟨c, hc⟩ : ∃ c, (s.getD k3 0).toNat = c := ⟨_, rfl⟩
                  rw [hc] at hix hcb
                  clear hc
                  go_wp2_with fail
                  go_meet
                  case rel => exact ⟨rfl, rfl⟩
                · have hl2 : ¬ (k3 : Int) < (L : Int) := by omega
                  have e0 : Hid (dot = false) := by rw [← HD.out]; exact tkx_end (by rw [HL.out]; exact hl) _
                  go_wp2_with fail
                  go_meet
                  case rel => exact ⟨by rw [e0.out], rfl⟩
              case rest =>
                obtain ⟨rfl, rfl⟩ := hcut
                obtain ⟨pt, hpt⟩ : ∃ x, cPt s = x := ⟨_, rfl⟩
                obtain ⟨k4, hk4⟩ : ∃ x, cK4 s = x := ⟨_, rfl⟩
                have H4 : Hid (cPt s = pt) := hpt
                have H5 : Hid (cK4 s = k4) := hk4
                have HK4 : Hid (k4 ≤ L) := by have a := cK4_le s; rw [hk4, HL.out] at a; exact a
                clear hpt hk4
                go_upto_if 120 with fail
                go_cut [5, 9, 10] from 120 to 140 (fun s5 s9 s10 wx => s5 = .int .i64 (k4 : Int) ∧ Hid (cGo s = true) ∧ wx = (w.alloc (.cells #[.bool false, .bool false, .bool false, .int .u64 0, .int .i64 0, .bool false, .bool false, .bool false, .string ⟨#[]⟩, .string ⟨#[]⟩, .string ⟨#[]⟩] 89)).alloc (.cells #[.bool false, .bool false, .bool false, .int .u64 0, .int .i64 0, .bool false, .bool ng, .bool hx, .string ⟨wh.toArray⟩, .string ⟨pt.toArray⟩, .string ⟨#[]⟩] 89))
                case first =>
                  cases dot with
                  | true =>
                    obtain ⟨-, a2, a3, a4⟩ := way_dot (s := s) (by rw [H1.out]; exact O1.out) HPD.out
                    have hlt2 : k3 + 1 ≤ L := by
                      have := of_decide_eq_true HD.out
                      have := HL.out
                      omega
                    have wr1 : IntKind.i64.wrap ((k3 : Int) + 1) = (k3 : Int) + 1 := by rw [IntWalk.i64_left]; exact IntWalk.wrap64_in _ (by have := hs2.out; omega)
                    have ep : (s.drop (k3 + 1)).takeWhile (isX hx) = pt := by rw [← H4.out, a2, H3.out, HX.out]
                    have el : k3 + 1 + pt.length = k4 := by rw [← H5.out, a3, H3.out, H4.out]
                    have ek : k3 + 1 + ((s.drop (k3 + 1)).takeWhile (isX hx)).length = k4 := by rw [ep]; exact el
                    rw [H4.out] at a4
                    have A4 : Hid (cGo s = !(pt == [])) := a4
                    clear a2 a3 a4
                    cases ok2 : decide (k3 + 1 < k4) with
                    | false =>
                      have hR2 : ∀ wx, Calls Tryz.prog 92 #[.string ⟨s.toArray⟩, .int .i64 ((k3 : Int) + 1), .bool hx] wx fun e w' => e = .returned (.tuple #[.int .i64 (k4 : Int), .bool false]) ∧ wx = w' := fun wx => urun_any hx s (k3 + 1) wx (by rw [HL.out]; exact hs2.out) (by rw [HL.out]; exact hlt2) k4 ek false ok2
                      have O2 : Hid (pt.length = 0) := by have := of_decide_eq_false ok2; unfold Hid; omega
                      clear ok2 ep ek el
                      go_wp2_with (go_at_call 92; refine (hR2 _).mono ?_; rintro e w2 ⟨rfl, rfl⟩)
                      have e0 : pt = [] := List.eq_nil_of_length_eq_zero O2.out
                      obtain ⟨-, -, g1, g2⟩ := way_B (s := s) (by rw [A4.out, e0]; rfl)
                      exact bodyPost_ret (results_box11 rfl _ _ w.heap.size _ _ _ _ _ _ _ _ _ _ _ rfl (Bk.two w _ _)) rfl ⟨⟨_, _, rfl, sp_bad HW.out g2 (by rw [g1, H5.out]) ⟨_, _, _, _, _, _, _, _, _, rfl⟩⟩, keep_two w _ _⟩
                    | true =>
                      have hR2 : ∀ wx, Calls Tryz.prog 92 #[.string ⟨s.toArray⟩, .int .i64 ((k3 : Int) + 1), .bool hx] wx fun e w' => e = .returned (.tuple #[.int .i64 (k4 : Int), .bool true]) ∧ wx = w' := fun wx => urun_any hx s (k3 + 1) wx (by rw [HL.out]; exact hs2.out) (by rw [HL.out]; exact hlt2) k4 ek true ok2
                      have hcut2 : ∀ wx, (Instr.slice 9 (.string ⟨s.toArray⟩) (some (.int .i64 ((k3 : Int) + 1))) (some (.int .i64 (k4 : Int))) none).run Tryz.prog wx = .ok (.string ⟨pt.toArray⟩) wx := fun wx => by
                        have a := run_cut s (k3 + 1) k4 (by omega) (by rw [HL.out]; exact HK4.out) wx
                        have b := (tw_cut (isX hx) s (k3 + 1)).1
                        rw [ek, ep] at b
                        rw [b] at a
                        exact a
                      have OK : Hid (cGo s = true) := by
                        unfold Hid
                        rw [A4.out]
                        have := of_decide_eq_true ok2
                        cases pt with
                        | nil => simp at el; omega
                        | cons a t => rfl
                      clear ok2 ep ek el
                      go_wp2_with (go_at_call 92; refine (hR2 _).mono ?_; rintro e w2 ⟨rfl, rfl⟩)
                      go_meet
                      case rel => exact ⟨rfl, OK, rfl⟩
                  | false =>
                    obtain ⟨a1, a2, a3⟩ := way_C (s := s) (by rw [H1.out]; exact O1.out) HPD.out
                    have OK : Hid (cGo s = true) := a3
                    have e3 : Hid (k3 = k4) := by rw [← H5.out, ← H3.out]; exact a2.symm
                    have e4 : Hid ([] = pt) := by rw [← H4.out]; exact a1.symm
                    clear a1 a2 a3
                    go_wp2_with fail
                    go_meet
                    case rel => exact ⟨by rw [e3.out], OK, by rw [← e4.out]⟩
                case rest =>
                  obtain ⟨rfl, OK, rfl⟩ := hcut
                  obtain ⟨qe, hqe⟩ : ∃ b, cpE hx s k4 = b := ⟨_, rfl⟩
                  have HQ : Hid (cpE hx s k4 = qe) := hqe
                  obtain ⟨w1, w2, w3, w4⟩ := way_go OK.out
                  rw [HX.out, H5.out] at w1 w2 w3 w4
                  have W3 : Hid (cAt s = cpK hx s k4) := w3
                  have W4 : Hid (cOk s = cpO hx s k4) := w4
                  clear hqe w1 w2 w3 w4
                  go_upto_region 33 with fail
                  go_cut [162] from 141 to 161 (fun s162 wx => s162 = .bool qe ∧ wx = (w.alloc (.cells #[.bool false, .bool false, .bool false, .int .u64 0, .int .i64 0, .bool false, .bool false, .bool false, .string ⟨#[]⟩, .string ⟨#[]⟩, .string ⟨#[]⟩] 89)).alloc (.cells #[.bool false, .bool false, .bool false, .int .u64 0, .int .i64 0, .bool false, .bool ng, .bool hx, .string ⟨wh.toArray⟩, .string ⟨pt.toArray⟩, .string ⟨#[]⟩] 89))
                  case first =>
                    by_cases hl : k4 < L
                    · have hl2 : (k4 : Int) < (L : Int) := by omega
                      have hix := fun wx => run_ix s k4 (by have := HL.out; omega) wx
                      have hq : cpE hx s k4 = decide (s.getD k4 0 ∈ mkE hx) := tkx_at (by rw [HL.out]; exact hl) _
                      rw [HQ.out] at hq
                      obtain ⟨c, hc⟩ : ∃ c, s.getD k4 0 = c := ⟨_, rfl⟩
                      rw [hc] at hix hq
                      cases hx with
                      | true =>
                        have e2 : lt = 112 := by have := HLt.out; simp only [if_true] at this; exact this.symm
                        obtain ⟨b1, hb1⟩ : ∃ b, ((c.toNat : Int) == 112) = b := ⟨_, rfl⟩
                        have e0 : Hid (qe = b1) := by
                          unfold Hid
                          rw [hq, ← hb1, byt1 c 112 112 rfl]
                          rfl
                        clear hc hq
                        generalize (c.toNat : Int) = ci at *
                        subst e2
                        have hb2 : (ci == ((112 : Nat) : Int)) = b1 := hb1
                        cases b1 <;> (go_wp2_with fail; go_meet; case rel => exact ⟨by rw [e0.out], rfl⟩)
                      | false =>
                        have e2 : lt = 101 := by have := HLt.out; simp only [Bool.false_eq_true, if_false] at this; exact this.symm
                        obtain ⟨b1, hb1⟩ : ∃ b, ((c.toNat : Int) == 101) = b := ⟨_, rfl⟩
                        obtain ⟨b2, hb2⟩ : ∃ b, ((c.toNat : Int) == 69) = b := ⟨_, rfl⟩
                        have e0 : Hid (qe = (b1 || b2)) := by
                          unfold Hid
                          rw [hq, ← hb1, ← hb2, byt1 c 101 101 rfl, byt1 c 69 69 rfl, ← Bool.decide_or]
                          congr 1
                          apply propext
                          simp [mkE]
                        clear hc hq
                        generalize (c.toNat : Int) = ci at *
                        subst e2
                        have hb3 : (ci == ((101 : Nat) : Int)) = b1 := hb1
                        cases b1 <;> cases b2 <;> (go_wp2_with fail; go_meet; case rel => exact ⟨by rw [e0.out]; rfl, rfl⟩)
                    · have hl2 : ¬ (k4 : Int) < (L : Int) := by omega
                      have e0 : Hid (qe = false) := by rw [← HQ.out]; exact tkx_end (by rw [HL.out]; exact hl) _
                      go_wp2_with fail
                      go_meet
                      case rel => exact ⟨by rw [e0.out], rfl⟩
                  case rest =>
                    obtain ⟨rfl, rfl⟩ := hcut
                    obtain ⟨pw, hpw⟩ : ∃ x, cPw s = x := ⟨_, rfl⟩
                    obtain ⟨kE, hkE⟩ : ∃ x, cpK hx s k4 = x := ⟨_, rfl⟩
                    have H6 : Hid (cPw s = pw) := hpw
                    have H7 : Hid (cpK hx s k4 = kE) := hkE
                    have HKE : Hid (kE ≤ L) := by
                      have a := cpK_le hx s k4 (by rw [HL.out]; exact HK4.out)
                      rw [hkE, HL.out] at a
                      exact a
                    clear hpw hkE
                    go_upto_if 162 with fail
                    go_cut [5, 9, 10, 11] from 162 to 207 (fun s5 s9 s10 s11 wx => s5 = .int .i64 (kE : Int) ∧ Hid (cpO hx s k4 = decide (kE = L)) ∧ wx = (w.alloc (.cells #[.bool false, .bool false, .bool false, .int .u64 0, .int .i64 0, .bool false, .bool false, .bool false, .string ⟨#[]⟩, .string ⟨#[]⟩, .string ⟨#[]⟩] 89)).alloc (.cells #[.bool false, .bool false, .bool false, .int .u64 0, .int .i64 0, .bool false, .bool ng, .bool hx, .string ⟨wh.toArray⟩, .string ⟨pt.toArray⟩, .string ⟨pw.toArray⟩] 89))
                    case first =>
                      cases qe with
                      | true =>
                        have hlt : k4 + 1 ≤ L := by
                          have := of_decide_eq_true HQ.out
                          have := HL.out
                          omega
                        have wr1 : IntKind.i64.wrap ((k4 : Int) + 1) = (k4 : Int) + 1 := by rw [IntWalk.i64_left]; exact IntWalk.wrap64_in _ (by have := hs2.out; omega)
                        have wr2 : IntKind.i64.wrap ((k4 : Int) + 1 + 1) = (k4 : Int) + 1 + 1 := by rw [IntWalk.i64_left]; exact IntWalk.wrap64_in _ (by have := hs2.out; omega)
                        obtain ⟨sg, hsg⟩ : ∃ b, cpS s k4 = b := ⟨_, rfl⟩
                        obtain ⟨k5, hk5⟩ : ∃ x, cpJ s k4 = x := ⟨_, rfl⟩
                        have HS : Hid (cpS s k4 = sg) := hsg
                        have H8 : Hid (cpJ s k4 = k5) := hk5
                        have HK5 : Hid ((if sg then k4 + 2 else k4 + 1) = k5) := by rw [← hk5, ← hsg]; rfl
                        have HK5L : Hid (k4 + 1 ≤ k5 ∧ k5 ≤ L) := by
                          have a := HK5.out
                          cases sg with
                          | false => simp at a; exact ⟨by omega, by omega⟩
                          | true =>
                            have a : k4 + 2 = k5 := by simpa using a
                            refine ⟨by omega, ?_⟩
                            have := (of_decide_eq_true hsg).1
                            have := HL.out
                            omega
                        clear hsg hk5
                        go_upto_region 35 with fail
                        go_cut [180] from 165 to 179 (fun s180 wx => s180 = .bool sg ∧ wx = (w.alloc (.cells #[.bool false, .bool false, .bool false, .int .u64 0, .int .i64 0, .bool false, .bool false, .bool false, .string ⟨#[]⟩, .string ⟨#[]⟩, .string ⟨#[]⟩] 89)).alloc (.cells #[.bool false, .bool false, .bool false, .int .u64 0, .int .i64 0, .bool false, .bool ng, .bool hx, .string ⟨wh.toArray⟩, .string ⟨pt.toArray⟩, .string ⟨#[]⟩] 89))
                        case first =>
                          by_cases hl : k4 + 1 < L
                          · have hl2 : (k4 : Int) + 1 < (L : Int) := by omega
                            have hix : ∀ wx, (Instr.index 9 (.string ⟨s.toArray⟩) (.int .i64 ((k4 : Int) + 1))).run Tryz.prog wx = .ok (.int .u8 ((s.getD (k4 + 1) 0).toNat : Nat)) wx := fun wx => run_ix s (k4 + 1) (by have := HL.out; omega) wx
                            obtain ⟨b1, hb1⟩ : ∃ b, (((s.getD (k4 + 1) 0).toNat : Int) == 43) = b := ⟨_, rfl⟩
                            obtain ⟨b2, hb2⟩ : ∃ b, (((s.getD (k4 + 1) 0).toNat : Int) == 45) = b := ⟨_, rfl⟩
                            have e0 : Hid ((b1 || b2) = sg) := by
                              unfold Hid
                              rw [← HS.out, ← hb1, ← hb2, byt1 _ 43 43 rfl, byt1 _ 45 45 rfl, ← Bool.decide_or]
                              unfold cpS
                              rw [tkx_at (by rw [HL.out]; exact hl)]
                              congr 1
                              apply propext
                              simp
                            obtain ⟨c, hc⟩ : ∃ c, (s.getD (k4 + 1) 0).toNat = c := ⟨_, rfl⟩
                            rw [hc] at hix hb1 hb2
                            clear hc
                            cases b1 <;> cases b2 <;> (go_wp2_with fail; go_meet; case rel => exact ⟨by rw [← e0.out]; rfl, rfl⟩)
                          · have hl2 : ¬ (k4 : Int) + 1 < (L : Int) := by omega
                            have e0 : Hid (sg = false) := by
                              rw [← HS.out]
                              exact tkx_end (by rw [HL.out]; exact hl) _
                            go_wp2_with fail
                            go_meet
                            case rel => exact ⟨by rw [e0.out], rfl⟩
                        case rest =>
                          obtain ⟨rfl, rfl⟩ := hcut
                          have eD : cpD hx s k4 = (s.drop k5).takeWhile (isX false) := by
                            unfold cpD
                            rw [HQ.out, if_pos rfl, H8.out, isX_fun]
                          have eE : k5 + ((s.drop k5).takeWhile (isX false)).length = kE := by
                            rw [← eD, ← H7.out]
                            unfold cpK
                            rw [HQ.out, if_pos rfl, H8.out]
                          have ED : Hid (k5 + (cpD hx s k4).length = kE) := by unfold Hid; rw [eD]; exact eE
                          obtain ⟨ok3, hok3⟩ : ∃ b, decide (k5 < kE) = b := ⟨_, rfl⟩
                          have HO3 : Hid (decide (k5 < kE) = ok3) := hok3
                          have hR3 := fun wx => urun_any false s k5 wx (by rw [HL.out]; exact hs2.out) (by rw [HL.out]; exact HK5L.out.2) kE eE ok3 hok3
                          clear eD eE hok3
                          go_upto_if 180 with fail
                          go_cut [9, 10] from 180 to 193 (fun s9 s10 wx => s9 = .int .i64 (kE : Int) ∧ s10 = .bool ok3 ∧ wx = (w.alloc (.cells #[.bool false, .bool false, .bool false, .int .u64 0, .int .i64 0, .bool false, .bool false, .bool false, .string ⟨#[]⟩, .string ⟨#[]⟩, .string ⟨#[]⟩] 89)).alloc (.cells #[.bool false, .bool false, .bool false, .int .u64 0, .int .i64 0, .bool false, .bool ng, .bool hx, .string ⟨wh.toArray⟩, .string ⟨pt.toArray⟩, .string ⟨#[]⟩] 89))
                          case first =>
                            cases sg with
                            | true =>
                              have e4 : k4 + 1 + 1 = k5 := by have a := HK5.out; simpa using a
                              have hR4 : ∀ wx, Calls Tryz.prog 92 #[.string ⟨s.toArray⟩, .int .i64 ((k4 : Int) + 1 + 1), .bool false] wx fun e w' => e = .returned (.tuple #[.int .i64 (kE : Int), .bool ok3]) ∧ wx = w' := fun wx => by
                                have a := hR3 wx
                                rw [← e4] at a
                                exact a
                              clear hR3 e4
                              go_wp2_with (go_at_call 92; refine (hR4 _).mono ?_; rintro e w2 ⟨rfl, rfl⟩)
                              go_meet
                              case rel => exact ⟨rfl, rfl, rfl⟩
                            | false =>
                              have e4 : k4 + 1 = k5 := by have a := HK5.out; simpa using a
                              have hR4 : ∀ wx, Calls Tryz.prog 92 #[.string ⟨s.toArray⟩, .int .i64 ((k4 : Int) + 1), .bool false] wx fun e w' => e = .returned (.tuple #[.int .i64 (kE : Int), .bool ok3]) ∧ wx = w' := fun wx => by
                                have a := hR3 wx
                                rw [← e4] at a
                                exact a
                              clear hR3 e4
                              go_wp2_with (go_at_call 92; refine (hR4 _).mono ?_; rintro e w2 ⟨rfl, rfl⟩)
                              go_meet
                              case rel => exact ⟨rfl, rfl, rfl⟩
                          case rest =>
                            obtain ⟨rfl, rfl, rfl⟩ := hcut
                            clear hR3
                            cases ok3 with
                            | false =>
                              go_wp2_with fail
                              have g1 : cOk s = false := by
                                have a := of_decide_eq_false HO3.out
                                have b := ED.out
                                rw [W4.out]
                                unfold cpO
                                rw [HQ.out, if_pos rfl, decide_eq_false (by omega), Bool.false_and]
                              exact bodyPost_ret (results_box11 rfl _ _ w.heap.size _ _ _ _ _ _ _ _ _ _ _ rfl (Bk.two w _ _)) rfl ⟨⟨_, _, rfl, sp_bad HW.out g1 (by rw [W3.out, H7.out]) ⟨_, _, _, _, _, _, _, _, _, rfl⟩⟩, keep_two w _ _⟩
                            | true =>
                              have hcut3 : ∀ wx, (Instr.slice 9 (.string ⟨s.toArray⟩) (some (.int .i64 ((k4 : Int) + 1))) (some (.int .i64 (kE : Int))) none).run Tryz.prog wx = .ok (.string ⟨pw.toArray⟩) wx := fun wx => by
                                have hle : k5 < kE := of_decide_eq_true HO3.out
                                have a := run_cut s (k4 + 1) kE (by have := HK5L.out.1; omega) (by rw [HL.out]; exact HKE.out) wx
                                have b : (s.take kE).drop (k4 + 1) = pw := by
                                  rw [← H6.out, ← H7.out]
                                  unfold cPw
                                  rw [HX.out, H5.out, HQ.out, if_pos rfl]
                                  exact pw_cut HQ.out
                                rw [b] at a
                                exact a
                              have G : Hid (cpO hx s k4 = decide (kE = L)) := by
                                have a := of_decide_eq_true HO3.out
                                have b := ED.out
                                unfold Hid cpO
                                rw [HQ.out, if_pos rfl, decide_eq_true (show 0 < (cpD hx s k4).length by omega), Bool.true_and, H7.out, HL.out]
                              go_wp2_with fail
                              go_meet
                              case rel => exact ⟨rfl, G, rfl⟩
                      | false =>
                        have eK : cpK hx s k4 = k4 := by unfold cpK; rw [HQ.out]; rfl
                        have e3 : Hid (k4 = kE) := by rw [← H7.out, eK]; exact rfl
                        have e4 : Hid ([] = pw) := by
                          rw [← H6.out]
                          unfold cPw
                          rw [HX.out, H5.out, HQ.out]
                          exact rfl
                        have G0 : cpO hx s k4 = (decide (k4 = L) && !hx) := by
                          unfold cpO
                          rw [HQ.out, HL.out]
                          rfl
                        cases hx with
                        | true =>
                          have g1 : Hid (cOk s = false) := by
                            unfold Hid
                            rw [W4.out, G0]
                            exact Bool.and_false _
                          have g2 : Hid (cAt s = k4) := by unfold Hid; rw [W3.out]; exact eK
                          clear eK G0
                          go_wp2_with fail
                          exact bodyPost_ret (results_box11 rfl _ _ w.heap.size _ _ _ _ _ _ _ _ _ _ _ rfl (Bk.two w _ _)) rfl ⟨⟨_, _, rfl, sp_bad HW.out g1.out (by rw [g2.out]) ⟨_, _, _, _, _, _, _, _, _, rfl⟩⟩, keep_two w _ _⟩
                        | false =>
                          have G : Hid (cpO false s k4 = decide (kE = L)) := by
                            unfold Hid
                            rw [G0, e3.out]
                            exact Bool.and_true _
                          clear eK G0
                          go_wp2_with fail
                          go_meet
                          case rel => exact ⟨by rw [e3.out], G, by rw [← e4.out]⟩
                    case rest =>
                      obtain ⟨rfl, G, rfl⟩ := hcut
                      by_cases hl : kE < L
                      · have hl2 : (kE : Int) < (L : Int) := by omega
                        go_wp2_with fail
                        have g1 : cOk s = false := by
                          rw [W4.out, G.out]
                          exact decide_eq_false (by omega)
                        exact bodyPost_ret (results_box11 rfl _ _ w.heap.size _ _ _ _ _ _ _ _ _ _ _ rfl (Bk.two w _ _)) rfl ⟨⟨_, _, rfl, sp_bad HW.out g1 (by rw [W3.out, H7.out]) ⟨_, _, _, _, _, _, _, _, _, rfl⟩⟩, keep_two w _ _⟩
                      · have hl2 : ¬ (kE : Int) < (L : Int) := by omega
                        go_wp2_with fail
                        have g1 : cOk s = true := by
                          rw [W4.out, G.out]
                          exact decide_eq_true (by have := HKE.out; omega)
                        exact bodyPost_ret (results_box11 rfl _ _ w.heap.size _ _ _ _ _ _ _ _ _ _ _ rfl (Bk.two w _ _)) rfl ⟨⟨_, _, rfl, sp_ok g1 rfl (by rw [HN.out, HX.out, H1.out, H4.out, H6.out]; rfl)⟩, keep_two w _ _⟩
/-- The reference's Split, of every text. -/
theorem Split_any (s : List UInt8) (w : World) (hs : s.length ≤ 4096) :
    Calls Tryz.prog 46 #[.string ⟨s.toArray⟩] w fun e w' => (∃ T V, e = .returned (.tuple #[.agg T, .int .i64 V]) ∧ SpA s T V) ∧ Keep w w' := by
  cases hwd : cWd s with
  | false => exact Split_num s w hs hwd
  | true =>
    have a := of_decide_eq_true hwd
    cases hg : cNg s with
    | true =>
      have k1 : cK1 s = 1 := by unfold cK1; rw [hg]; rfl
      rw [k1, hg] at a
      exact Split_ninf s w hs hg a.1 (by rcases a.2 with q | q; exact q; cases q.2)
    | false =>
      have k1 : cK1 s = 0 := by unfold cK1; rw [hg]; rfl
      rw [k1] at a
      rcases a.2 with q | q
      · exact Split_inf s w hs hg a.1 q
      · exact Split_nan s w hs hg a.1 q.1
end Go.Proofs.YtpdjpjkieafnbaaGreatDoor.Li
