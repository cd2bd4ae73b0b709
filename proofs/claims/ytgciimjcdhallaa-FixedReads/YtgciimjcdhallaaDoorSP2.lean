import Derived.Test.YtgciimjcdhallaaDoorSP1
set_option linter.unusedVariables false
set_option linter.unusedSimpArgs false
namespace Go.Proofs.YtgciimjcdhallaaDoor
open Go.RowKit Go.Shelf
set_option maxRecDepth 100000 in
set_option maxHeartbeats 2000000 in
theorem Split_any (s : List UInt8) (w : World) (hs : s.length ≤ 4096) (hin : pK1 s < s.length → (s.getD (pK1 s) 0).toNat ≠ 105 ∧ (s.getD (pK1 s) 0).toNat ≠ 110) (hhx : pK1 s + 1 < s.length → (s.getD (pK1 s) 0).toNat = 48 → (s.getD (pK1 s + 1) 0).toNat ≠ 120) :
    Calls Tryd.prog 15 #[.string ⟨s.toArray⟩] w fun e w' => (∃ T V, e = .returned (.tuple #[.agg T, .int .i64 V]) ∧ SpA s T V) ∧ Keep w w' := by
  have s1 : (ByteArray.mk s.toArray).size = s.length := sz_mk s
  obtain ⟨L, hL⟩ : ∃ L, s.length = L := ⟨_, rfl⟩
  obtain ⟨K, hK⟩ : ∃ K, pK1 s = K := ⟨_, rfl⟩
  obtain ⟨ng, hng⟩ : ∃ b, pNg s = b := ⟨_, rfl⟩
  have HKL : Hid (K ≤ L) := by have := pK1_le s; rw [hK, hL] at this; exact this
  have hK01 : Hid ((if ng then 1 else 0) = K) := by rw [← hng, ← hK]; rfl
  rw [hK, hL] at hin hhx
  rw [hL] at s1 hs
  have HI : Hid (K < L → (s.getD K 0).toNat ≠ 105 ∧ (s.getD K 0).toNat ≠ 110) := hin
  have HX : Hid (K + 1 < L → (s.getD K 0).toNat = 48 → (s.getD (K + 1) 0).toNat ≠ 120) := hhx
  have HL : Hid (s.length = L) := hL
  have HK : Hid (pK1 s = K) := hK
  have HN : Hid (pNg s = ng) := hng
  have hs2 : Hid (L ≤ 4096) := hs
  clear hin hhx hL hK hng hs
  go_enter Tryd.func15, Tryd.ntmps15
  go_upto_region 3 with fail
  go_cut [20] from 13 to 19 (fun s20 wx => s20 = .bool ng ∧ wx = (w.alloc (.cells #[.bool false, .bool false, .bool false, .int .u64 0, .int .i64 0, .bool false, .bool false, .bool false, .string ⟨#[]⟩, .string ⟨#[]⟩, .string ⟨#[]⟩] 43)).alloc (.cells #[.bool false, .bool false, .bool false, .int .u64 0, .int .i64 0, .bool false, .bool false, .bool false, .string ⟨#[]⟩, .string ⟨#[]⟩, .string ⟨#[]⟩] 43))
  case first =>
    by_cases h0 : L = 0
    · subst h0
      have e0 : Hid (ng = false) := by
        rw [← HN.out]
        unfold pNg tk
        apply decide_eq_false
        have := HL.out
        omega
      go_wp2_with fail
      go_meet
      case rel => exact ⟨by rw [e0.out], rfl⟩
    · have h1 : (0 : Int) < (L : Int) := by omega
      have hix0 : ∀ wx, (Instr.index 9 (.string ⟨s.toArray⟩) (.int .i64 0)).run Tryd.prog wx = .ok (.int .u8 ((s.getD 0 0).toNat : Nat)) wx := fun wx => run_ix s 0 (by have := HL.out; omega) wx
      obtain ⟨c0, hc0⟩ : ∃ c0, (s.getD 0 0).toNat = c0 := ⟨_, rfl⟩
      rw [hc0] at hix0
      have hcb : ((c0 : Int) == 45) = ng := by
        have h2 := ng_of (s := s) (by have := HL.out; omega)
        rw [HN.out, hc0] at h2
        rw [h2]
        by_cases q : c0 = 45
        · rw [q]; rfl
        · rw [neI (by omega), decide_eq_false q]
      clear hc0
      go_wp2_with fail
      go_meet
      case rel => exact ⟨rfl, rfl⟩
  case rest =>
    obtain ⟨rfl, rfl⟩ := hcut
    go_upto_if 20 with fail
    go_cut [5] from 20 to 21 (fun s5 wx => s5 = .int .i64 (K : Int) ∧ wx = (w.alloc (.cells #[.bool false, .bool false, .bool false, .int .u64 0, .int .i64 0, .bool false, .bool false, .bool false, .string ⟨#[]⟩, .string ⟨#[]⟩, .string ⟨#[]⟩] 43)).alloc (.cells #[.bool false, .bool false, .bool false, .int .u64 0, .int .i64 0, .bool false, .bool ng, .bool false, .string ⟨#[]⟩, .string ⟨#[]⟩, .string ⟨#[]⟩] 43))
    case first =>
      cases ng with
      | true =>
        have e1 : Hid (1 = K) := by have := hK01.out; simp only [if_true, Bool.false_eq_true, if_false] at this; exact this
        go_wp2_with fail
        go_meet
        case rel => exact ⟨by rw [← e1.out]; rfl, rfl⟩
      | false =>
        have e1 : Hid (0 = K) := by have := hK01.out; simp only [if_true, Bool.false_eq_true, if_false] at this; exact this
        go_wp2_with fail
        go_meet
        case rel => exact ⟨by rw [← e1.out]; rfl, rfl⟩
    case rest =>
      obtain ⟨rfl, rfl⟩ := hcut
      go_upto_region 6 with fail
      go_cut [42] from 22 to 41 (fun s42 wx => s42 = .bool false ∧ wx = (w.alloc (.cells #[.bool false, .bool false, .bool false, .int .u64 0, .int .i64 0, .bool false, .bool false, .bool false, .string ⟨#[]⟩, .string ⟨#[]⟩, .string ⟨#[]⟩] 43)).alloc (.cells #[.bool false, .bool false, .bool false, .int .u64 0, .int .i64 0, .bool false, .bool ng, .bool false, .string ⟨#[]⟩, .string ⟨#[]⟩, .string ⟨#[]⟩] 43))
      case first =>
        by_cases hl : K < L
        · have hl2 : (K : Int) < (L : Int) := by omega
          have hix := fun wx => run_ix s K (by have := HL.out; omega) wx
          obtain ⟨hi, hn⟩ := HI.out hl
          obtain ⟨c, hc⟩ : ∃ c, (s.getD K 0).toNat = c := ⟨_, rfl⟩
          rw [hc] at hix hi hn
          have hi2 : ((c : Int) == 105) = false := neI (by omega)
          have hn2 : ((c : Int) == 110) = false := neI (by omega)
          clear hc hi hn
          go_wp2_with fail
          go_meet
          case rel => exact ⟨rfl, rfl⟩
        · have hl2 : ¬ (K : Int) < (L : Int) := by omega
          go_wp2_with fail
          go_meet
          case rel => exact ⟨rfl, rfl⟩
      case rest =>
        obtain ⟨rfl, rfl⟩ := hcut
        go_upto_region 18 with fail
        go_cut [89] from 72 to 88 (fun s89 wx => s89 = .bool false ∧ wx = (w.alloc (.cells #[.bool false, .bool false, .bool false, .int .u64 0, .int .i64 0, .bool false, .bool false, .bool false, .string ⟨#[]⟩, .string ⟨#[]⟩, .string ⟨#[]⟩] 43)).alloc (.cells #[.bool false, .bool false, .bool false, .int .u64 0, .int .i64 0, .bool false, .bool ng, .bool false, .string ⟨#[]⟩, .string ⟨#[]⟩, .string ⟨#[]⟩] 43))
        case first =>
          have wr1 : IntKind.i64.wrap ((K : Int) + 1) = (K : Int) + 1 := by rw [IntWalk.i64_left]; exact IntWalk.wrap64_in _ (by have := hs2.out; have := HKL.out; omega)
          by_cases hl : K + 1 < L
          · have hl2 : (K : Int) + 1 < (L : Int) := by omega
            have hix := fun wx => run_ix s K (by have := HL.out; omega) wx
            have hix1 : ∀ wx, (Instr.index 9 (.string ⟨s.toArray⟩) (.int .i64 ((K : Int) + 1))).run Tryd.prog wx = .ok (.int .u8 ((s.getD (K + 1) 0).toNat : Nat)) wx := fun wx => run_ix s (K + 1) (by have := HL.out; omega) wx
            have hx := HX.out hl
            obtain ⟨c, hc⟩ : ∃ c, (s.getD K 0).toNat = c := ⟨_, rfl⟩
            obtain ⟨d, hd⟩ : ∃ d, (s.getD (K + 1) 0).toNat = d := ⟨_, rfl⟩
            rw [hc] at hix hx
            rw [hd] at hix1 hx
            by_cases q : c = 48
            · have q2 : ((c : Int) == 48) = true := by rw [q]; rfl
              have hd2 : ((d : Int) == 120) = false := neI (by have := hx q; omega)
              clear hc hd hx q
              go_wp2_with fail
              go_meet
              case rel => exact ⟨rfl, rfl⟩
            · have q2 : ((c : Int) == 48) = false := neI (by omega)
              clear hc hd hx q
              go_wp2_with fail
              go_meet
              case rel => exact ⟨rfl, rfl⟩
          · have hl2 : ¬ (K : Int) + 1 < (L : Int) := by omega
            go_wp2_with fail
            go_meet
            case rel => exact ⟨rfl, rfl⟩
        case rest =>
          obtain ⟨rfl, rfl⟩ := hcut
          obtain ⟨wh, hwh⟩ : ∃ x, pWh s = x := ⟨_, rfl⟩
          obtain ⟨k2, hk2⟩ : ∃ x, pK2 s = x := ⟨_, rfl⟩
          have H1 : Hid (pWh s = wh) := hwh
          have H2 : Hid (pK2 s = k2) := hk2
          have HK2 : Hid (K ≤ k2 ∧ k2 ≤ L) := by
            have a := pK2_le s
            rw [hk2, HL.out] at a
            refine ⟨?_, a⟩
            rw [← hk2]
            unfold pK2
            rw [HK.out]
            exact Nat.le_add_right _ _
          have ew : dg s K s.length = wh := by rw [← hwh, ← HK.out]; rfl
          have ek : K + (dg s K s.length).length = k2 := by rw [← hk2, ← HK.out]; rfl
          cases ok1 : (wh == []) with
          | true =>
            have hR1 := fun wx => run_any s K wx (by rw [HL.out]; exact hs2.out) (by rw [HL.out]; exact HKL.out) false (by rw [ew, ok1]; rfl) k2 ek
            have O0 : Hid ((wh == []) = true) := ok1
            clear ok1 ew ek hwh hk2
            go_wp2_with (go_at_call 30; refine (hR1 _).mono ?_; rintro e w2 ⟨rfl, rfl⟩)
            have e0 : wh = [] := by simpa using O0.out
            obtain ⟨g1, g2⟩ := o_none (s := s) (by rw [H1.out, e0])
            exact bodyPost_ret (results_box11 rfl _ _ w.heap.size _ _ _ _ _ _ _ _ _ _ _ rfl (Bk.two w _ _)) rfl ⟨⟨_, _, rfl, sp_bad HN.out g1 (by rw [g2, H2.out]) (by rw [H1.out, e0] : pWh s = []) (none_all (by rw [H1.out, e0])).1 (none_all (by rw [H1.out, e0])).2⟩, keep_two w _ _⟩
          | false =>
            have hR1 := fun wx => run_any s K wx (by rw [HL.out]; exact hs2.out) (by rw [HL.out]; exact HKL.out) true (by rw [ew, ok1]; rfl) k2 ek
            have hcut1 : ∀ wx, (Instr.slice 9 (.string ⟨s.toArray⟩) (some (.int .i64 (K : Int))) (some (.int .i64 (k2 : Int))) none).run Tryd.prog wx = .ok (.string ⟨wh.toArray⟩) wx := fun wx => by
              have a := run_cut s K k2 HK2.out.1 (by rw [HL.out]; exact HK2.out.2) wx
              have b := dg_cut s K
              rw [ek, ew] at b
              rw [b] at a
              exact a
            have O1 : Hid ((wh == []) = false) := ok1
            clear ok1 ew ek hwh hk2
            go_upto_region 27 with (go_at_call 30; refine (hR1 _).mono ?_; rintro e w2 ⟨rfl, rfl⟩)
            obtain ⟨dot, hdot⟩ : ∃ b, tk s [46] k2 = b := ⟨_, rfl⟩
            have HD : Hid (tk s [46] k2 = dot) := hdot
            have HPD : Hid (pDot s = dot) := by
              unfold pDot
              rw [H1.out, O1.out, H2.out, hdot]
              rfl
            clear hdot hR1 hcut1
            go_cut [120] from 111 to 119 (fun s120 wx => s120 = .bool dot ∧ wx = (w.alloc (.cells #[.bool false, .bool false, .bool false, .int .u64 0, .int .i64 0, .bool false, .bool false, .bool false, .string ⟨#[]⟩, .string ⟨#[]⟩, .string ⟨#[]⟩] 43)).alloc (.cells #[.bool false, .bool false, .bool false, .int .u64 0, .int .i64 0, .bool false, .bool ng, .bool false, .string ⟨wh.toArray⟩, .string ⟨#[]⟩, .string ⟨#[]⟩] 43))
            case first =>
              by_cases hl : k2 < L
              · have hl2 : (k2 : Int) < (L : Int) := by omega
                have hix := fun wx => run_ix s k2 (by have := HL.out; omega) wx
                have hcb : (((s.getD k2 0).toNat : Int) == 46) = dot := by
                  rw [← HD.out, tk_at (by rw [HL.out]; exact hl)]
                  rw [show (46 : Int) = ((46 : Nat) : Int) from rfl, eqb (by omega)]
                  simp
                obtain ⟨c, hc⟩ : ∃ c, (s.getD k2 0).toNat = c := ⟨_, rfl⟩
                rw [hc] at hix hcb
                clear hc
                go_wp2_with fail
                go_meet
                case rel => exact ⟨rfl, rfl⟩
              · have hl2 : ¬ (k2 : Int) < (L : Int) := by omega
                have e0 : Hid (dot = false) := by rw [← HD.out]; exact tk_end (by rw [HL.out]; exact hl)
                go_wp2_with fail
                go_meet
                case rel => exact ⟨by rw [e0.out], rfl⟩
            case rest =>
              obtain ⟨rfl, rfl⟩ := hcut
              obtain ⟨pt, hpt⟩ : ∃ x, oPt s = x := ⟨_, rfl⟩
              obtain ⟨k3, hk3⟩ : ∃ x, oK s = x := ⟨_, rfl⟩
              have H3 : Hid (oPt s = pt) := hpt
              have H4 : Hid (oK s = k3) := hk3
              have HK3 : Hid (k3 ≤ L) := by
                have a := (pK3_le s.length s).1
                rw [show pK3 s.length s = oK s from rfl, hk3, HL.out] at a
                exact a
              clear hpt hk3
              go_upto_if 120 with fail
              go_cut [5, 9, 10] from 120 to 140 (fun s5 s9 s10 wx => s5 = .int .i64 (k3 : Int) ∧ Hid (pOk s.length s = true) ∧ wx = (w.alloc (.cells #[.bool false, .bool false, .bool false, .int .u64 0, .int .i64 0, .bool false, .bool false, .bool false, .string ⟨#[]⟩, .string ⟨#[]⟩, .string ⟨#[]⟩] 43)).alloc (.cells #[.bool false, .bool false, .bool false, .int .u64 0, .int .i64 0, .bool false, .bool ng, .bool false, .string ⟨wh.toArray⟩, .string ⟨pt.toArray⟩, .string ⟨#[]⟩] 43))
              case first =>
                cases dot with
                | true =>
                  have hlt : k2 < L := by
                    have := of_decide_eq_true HD.out
                    have := HL.out
                    omega
                  have hlt2 : k2 + 1 ≤ L := hlt
                  have wr1 : IntKind.i64.wrap ((k2 : Int) + 1) = (k2 : Int) + 1 := by rw [IntWalk.i64_left]; exact IntWalk.wrap64_in _ (by have := hs2.out; omega)
                  have ep : dg s (k2 + 1) s.length = pt := by
                    rw [← H3.out]
                    unfold oPt pPt
                    rw [HPD.out, H2.out]
                    rfl
                  have ek : k2 + 1 + (dg s (k2 + 1) s.length).length = k3 := by
                    rw [← H4.out]
                    unfold oK pK3
                    rw [HPD.out, H2.out, ep]
                    show _ = k2 + 1 + (oPt s).length
                    rw [H3.out]
                  clear hlt
                  cases ok2 : (pt == []) with
                  | true =>
                    have hR2 : ∀ wx, Calls Tryd.prog 30 #[.string ⟨s.toArray⟩, .int .i64 ((k2 : Int) + 1), .bool false] wx fun e w' => e = .returned (.tuple #[.int .i64 (k3 : Int), .bool false]) ∧ wx = w' := fun wx => run_any s (k2 + 1) wx (by rw [HL.out]; exact hs2.out) (by rw [HL.out]; exact hlt2) false (by rw [ep, ok2]; rfl) k3 ek
                    have O2 : Hid ((pt == []) = true) := ok2
                    have EK : Hid (k2 + 1 + (dg s (k2 + 1) s.length).length = k3 ∧ dg s (k2 + 1) s.length = pt) := ⟨ek, ep⟩
                    clear ok2 ep ek
                    go_wp2_with (go_at_call 30; refine (hR2 _).mono ?_; rintro e w2 ⟨rfl, rfl⟩)
                    have e0 : pt = [] := by simpa using O2.out
                    obtain ⟨g1, g2⟩ := o_point (s := s) HPD.out (by rw [H3.out, e0])
                    have e3 : k3 = k2 + 1 := by have := EK.out.1; rw [EK.out.2, e0] at this; simpa using this.symm
                    exact bodyPost_ret (results_box11 rfl _ _ w.heap.size _ _ _ _ _ _ _ _ _ _ _ rfl (Bk.two w _ _)) rfl ⟨⟨_, _, rfl, sp_bad (V := (k3 : Int)) HN.out g1 (by rw [g2, H2.out, e3]) H1.out (by rw [H3.out, e0] : oPt s = []) (point_all HPD.out (by rw [H3.out, e0]))⟩, keep_two w _ _⟩
                  | false =>
                    have hR2 : ∀ wx, Calls Tryd.prog 30 #[.string ⟨s.toArray⟩, .int .i64 ((k2 : Int) + 1), .bool false] wx fun e w' => e = .returned (.tuple #[.int .i64 (k3 : Int), .bool true]) ∧ wx = w' := fun wx => run_any s (k2 + 1) wx (by rw [HL.out]; exact hs2.out) (by rw [HL.out]; exact hlt2) true (by rw [ep, ok2]; rfl) k3 ek
                    have hcut2 : ∀ wx, (Instr.slice 9 (.string ⟨s.toArray⟩) (some (.int .i64 ((k2 : Int) + 1))) (some (.int .i64 (k3 : Int))) none).run Tryd.prog wx = .ok (.string ⟨pt.toArray⟩) wx := fun wx => by
                      have a := run_cut s (k2 + 1) k3 (by omega) (by rw [HL.out]; exact HK3.out) wx
                      have b := dg_cut s (k2 + 1)
                      rw [ek, ep] at b
                      rw [b] at a
                      exact a
                    have OK : Hid (pOk s.length s = true) := by
                      unfold Hid pOk
                      rw [H1.out, O1.out, show pPt s.length s = oPt s from rfl, H3.out, ok2]
                      simp
                    clear ok2 ep ek
                    go_wp2_with (go_at_call 30; refine (hR2 _).mono ?_; rintro e w2 ⟨rfl, rfl⟩)
                    go_meet
                    case rel => exact ⟨rfl, OK, rfl⟩
                | false =>
                  have OK : Hid (pOk s.length s = true) := by
                    unfold Hid pOk
                    rw [H1.out, O1.out, HPD.out]
                    rfl
                  have e3 : Hid (k2 = k3) := by
                    rw [← H4.out, ← H2.out]
                    unfold oK pK3
                    rw [HPD.out]
                    rfl
                  have e4 : Hid ([] = pt) := by
                    rw [← H3.out]
                    unfold oPt pPt
                    rw [HPD.out]
                    rfl
                  go_wp2_with fail
                  go_meet
                  case rel => exact ⟨by rw [e3.out], OK, by rw [← e4.out]⟩
              case rest =>
                obtain ⟨rfl, OK, rfl⟩ := hcut
                obtain ⟨qe, hqe⟩ : ∃ b, qE s k3 = b := ⟨_, rfl⟩
                have HQ : Hid (qE s k3 = qe) := hqe
                clear hqe
                go_upto_region 33 with fail
                go_cut [162] from 141 to 161 (fun s162 wx => s162 = .bool qe ∧ wx = (w.alloc (.cells #[.bool false, .bool false, .bool false, .int .u64 0, .int .i64 0, .bool false, .bool false, .bool false, .string ⟨#[]⟩, .string ⟨#[]⟩, .string ⟨#[]⟩] 43)).alloc (.cells #[.bool false, .bool false, .bool false, .int .u64 0, .int .i64 0, .bool false, .bool ng, .bool false, .string ⟨wh.toArray⟩, .string ⟨pt.toArray⟩, .string ⟨#[]⟩] 43))
                case first =>
                  by_cases hl : k3 < L
                  · have hl2 : (k3 : Int) < (L : Int) := by omega
                    have hix := fun wx => run_ix s k3 (by have := HL.out; omega) wx
                    obtain ⟨b1, hb1⟩ : ∃ b, (((s.getD k3 0).toNat : Int) == 101) = b := ⟨_, rfl⟩
                    obtain ⟨b2, hb2⟩ : ∃ b, (((s.getD k3 0).toNat : Int) == 69) = b := ⟨_, rfl⟩
                    have e0 : Hid ((b1 || b2) = qe) := by
                      unfold Hid
                      rw [← HQ.out, ← hb1, ← hb2]
                      unfold qE
                      rw [tk_at (by rw [HL.out]; exact hl)]
                      rw [show (101 : Int) = ((101 : Nat) : Int) from rfl, show (69 : Int) = ((69 : Nat) : Int) from rfl, eqb (by omega), eqb (by omega), ← Bool.decide_or]
                      simp
                    obtain ⟨c, hc⟩ : ∃ c, (s.getD k3 0).toNat = c := ⟨_, rfl⟩
                    rw [hc] at hix hb1 hb2
                    clear hc
                    cases b1 <;> cases b2 <;> (go_wp2_with fail; go_meet; case rel => exact ⟨by rw [← e0.out]; rfl, rfl⟩)
                  · have hl2 : ¬ (k3 : Int) < (L : Int) := by omega
                    have e0 : Hid (qe = false) := by rw [← HQ.out]; exact tk_end (by rw [HL.out]; exact hl)
                    go_wp2_with fail
                    go_meet
                    case rel => exact ⟨by rw [e0.out], rfl⟩
                case rest =>
                  obtain ⟨rfl, rfl⟩ := hcut
                  obtain ⟨pw, hpw⟩ : ∃ x, pwX s = x := ⟨_, rfl⟩
                  obtain ⟨kE, hkE⟩ : ∃ x, oEnd s = x := ⟨_, rfl⟩
                  have H5 : Hid (pwX s = pw) := hpw
                  have H6 : Hid (oEnd s = kE) := hkE
                  have HKE : Hid (kE ≤ L) := by
                    have a := qK_le s k3 (by rw [HL.out]; exact HK3.out)
                    have b : oEnd s = qK s (oK s) := by unfold oEnd; rw [OK.out]; rfl
                    rw [← hkE, b, H4.out, ← HL.out]
                    exact a
                  clear hpw hkE
                  go_upto_if 162 with fail
                  go_cut [5, 9, 10, 11] from 162 to 205 (fun s5 s9 s10 s11 wx => s5 = .int .i64 (kE : Int) ∧ Hid (qOk s k3 = true) ∧ wx = (w.alloc (.cells #[.bool false, .bool false, .bool false, .int .u64 0, .int .i64 0, .bool false, .bool false, .bool false, .string ⟨#[]⟩, .string ⟨#[]⟩, .string ⟨#[]⟩] 43)).alloc (.cells #[.bool false, .bool false, .bool false, .int .u64 0, .int .i64 0, .bool false, .bool ng, .bool false, .string ⟨wh.toArray⟩, .string ⟨pt.toArray⟩, .string ⟨pw.toArray⟩] 43))
                  case first =>
                    cases qe with
                    | true =>
                      have hlt : k3 + 1 ≤ L := by
                        have := of_decide_eq_true HQ.out
                        have := HL.out
                        omega
                      have wr1 : IntKind.i64.wrap ((k3 : Int) + 1) = (k3 : Int) + 1 := by rw [IntWalk.i64_left]; exact IntWalk.wrap64_in _ (by have := hs2.out; omega)
                      have wr2 : IntKind.i64.wrap ((k3 : Int) + 1 + 1) = (k3 : Int) + 1 + 1 := by rw [IntWalk.i64_left]; exact IntWalk.wrap64_in _ (by have := hs2.out; omega)
                      obtain ⟨sg, hsg⟩ : ∃ b, (qNg s k3 || qPl s k3) = b := ⟨_, rfl⟩
                      obtain ⟨k4, hk4⟩ : ∃ x, qK2 s k3 = x := ⟨_, rfl⟩
                      have HS : Hid ((qNg s k3 || qPl s k3) = sg) := hsg
                      have H7 : Hid (qK2 s k3 = k4) := hk4
                      have HK4 : Hid ((if sg then k3 + 1 + 1 else k3 + 1) = k4) := by
                        rw [← hk4, ← hsg]
                        unfold qK2
                        cases qNg s k3 <;> cases qPl s k3 <;> rfl
                      have HK4L : Hid (k3 + 1 ≤ k4 ∧ k4 ≤ L) := by
                        have a := HK4.out
                        cases sg with
                        | false => simp at a; exact ⟨by omega, by omega⟩
                        | true =>
                          have a : k3 + 1 + 1 = k4 := by simpa using a
                          refine ⟨by omega, ?_⟩
                          have h3 : k3 + 1 < L := by
                            rcases Bool.or_eq_true_iff.1 hsg with q | q
                            · have := of_decide_eq_true q; have := HL.out; omega
                            · have := of_decide_eq_true q; have := HL.out; omega
                          omega
                      clear hsg hk4
                      go_upto_region 35 with fail
                      go_cut [180] from 165 to 179 (fun s180 wx => s180 = .bool sg ∧ wx = (w.alloc (.cells #[.bool false, .bool false, .bool false, .int .u64 0, .int .i64 0, .bool false, .bool false, .bool false, .string ⟨#[]⟩, .string ⟨#[]⟩, .string ⟨#[]⟩] 43)).alloc (.cells #[.bool false, .bool false, .bool false, .int .u64 0, .int .i64 0, .bool false, .bool ng, .bool false, .string ⟨wh.toArray⟩, .string ⟨pt.toArray⟩, .string ⟨#[]⟩] 43))
                      case first =>
                        by_cases hl : k3 + 1 < L
                        · have hl2 : (k3 : Int) + 1 < (L : Int) := by omega
                          have hix : ∀ wx, (Instr.index 9 (.string ⟨s.toArray⟩) (.int .i64 ((k3 : Int) + 1))).run Tryd.prog wx = .ok (.int .u8 ((s.getD (k3 + 1) 0).toNat : Nat)) wx := fun wx => run_ix s (k3 + 1) (by have := HL.out; omega) wx
                          obtain ⟨b1, hb1⟩ : ∃ b, (((s.getD (k3 + 1) 0).toNat : Int) == 43) = b := ⟨_, rfl⟩
                          obtain ⟨b2, hb2⟩ : ∃ b, (((s.getD (k3 + 1) 0).toNat : Int) == 45) = b := ⟨_, rfl⟩
                          have e0 : Hid ((b1 || b2) = sg) := by
                            unfold Hid
                            rw [← HS.out, ← hb1, ← hb2, Bool.or_comm]
                            unfold qNg qPl
                            rw [tk_at (by rw [HL.out]; exact hl), tk_at (by rw [HL.out]; exact hl)]
                            rw [show (43 : Int) = ((43 : Nat) : Int) from rfl, show (45 : Int) = ((45 : Nat) : Int) from rfl, eqb (by omega), eqb (by omega)]
                            simp
                          obtain ⟨c, hc⟩ : ∃ c, (s.getD (k3 + 1) 0).toNat = c := ⟨_, rfl⟩
                          rw [hc] at hix hb1 hb2
                          clear hc
                          cases b1 <;> cases b2 <;> (go_wp2_with fail; go_meet; case rel => exact ⟨by rw [← e0.out]; rfl, rfl⟩)
                        · have hl2 : ¬ (k3 : Int) + 1 < (L : Int) := by omega
                          have e0 : Hid (sg = false) := by
                            rw [← HS.out]
                            unfold qNg qPl
                            rw [tk_end (by rw [HL.out]; exact hl), tk_end (by rw [HL.out]; exact hl)]
                            rfl
                          go_wp2_with fail
                          go_meet
                          case rel => exact ⟨by rw [e0.out], rfl⟩
                      case rest =>
                        obtain ⟨rfl, rfl⟩ := hcut
                        have eE : k4 + (dg s k4 s.length).length = kE ∧ (dg s k4 s.length = qDs s k3) := by
                          have a := (o_power OK.out (by rw [H4.out]; exact HQ.out)).1
                          rw [H6.out, H4.out, H7.out] at a
                          have b : dg s k4 s.length = qDs s k3 := by unfold qDs; rw [H7.out]
                          exact ⟨by rw [b]; exact a.symm, b⟩
                        obtain ⟨ok3, hok3⟩ : ∃ b, qOk s k3 = b := ⟨_, rfl⟩
                        have HO3 : Hid (qOk s k3 = ok3) := hok3
                        have hR3 := fun wx => run_any s k4 wx (by rw [HL.out]; exact hs2.out) (by rw [HL.out]; exact HK4L.out.2) ok3 (by rw [eE.2, ← hok3]; unfold qOk; rw [HQ.out]; simp) kE eE.1
                        clear eE hok3
                        go_upto_if 180 with fail
                        go_cut [9, 10] from 180 to 193 (fun s9 s10 wx => s9 = .int .i64 (kE : Int) ∧ s10 = .bool ok3 ∧ wx = (w.alloc (.cells #[.bool false, .bool false, .bool false, .int .u64 0, .int .i64 0, .bool false, .bool false, .bool false, .string ⟨#[]⟩, .string ⟨#[]⟩, .string ⟨#[]⟩] 43)).alloc (.cells #[.bool false, .bool false, .bool false, .int .u64 0, .int .i64 0, .bool false, .bool ng, .bool false, .string ⟨wh.toArray⟩, .string ⟨pt.toArray⟩, .string ⟨#[]⟩] 43))
                        case first =>
                          cases sg with
                          | true =>
                            have e4 : k3 + 1 + 1 = k4 := by have a := HK4.out; simpa using a
                            have hR4 : ∀ wx, Calls Tryd.prog 30 #[.string ⟨s.toArray⟩, .int .i64 ((k3 : Int) + 1 + 1), .bool false] wx fun e w' => e = .returned (.tuple #[.int .i64 (kE : Int), .bool ok3]) ∧ wx = w' := fun wx => by
                              have a := hR3 wx
                              rw [← e4] at a
                              exact a
                            clear hR3 e4
                            go_wp2_with (go_at_call 30; refine (hR4 _).mono ?_; rintro e w2 ⟨rfl, rfl⟩)
                            go_meet
                            case rel => exact ⟨rfl, rfl, rfl⟩
                          | false =>
                            have e4 : k3 + 1 = k4 := by have a := HK4.out; simpa using a
                            have hR4 : ∀ wx, Calls Tryd.prog 30 #[.string ⟨s.toArray⟩, .int .i64 ((k3 : Int) + 1), .bool false] wx fun e w' => e = .returned (.tuple #[.int .i64 (kE : Int), .bool ok3]) ∧ wx = w' := fun wx => by
                              have a := hR3 wx
                              rw [← e4] at a
                              exact a
                            clear hR3 e4
                            go_wp2_with (go_at_call 30; refine (hR4 _).mono ?_; rintro e w2 ⟨rfl, rfl⟩)
                            go_meet
                            case rel => exact ⟨rfl, rfl, rfl⟩
                        case rest =>
                          obtain ⟨rfl, rfl, rfl⟩ := hcut
                          clear hR3
                          cases ok3 with
                          | false =>
                            go_wp2_with fail
                            have g1 : ¬ oGood s := by
                              rintro ⟨a, -⟩
                              unfold oOk at a
                              rw [H4.out, HO3.out, Bool.and_false] at a
                              cases a
                            exact bodyPost_ret (results_box11 rfl _ _ w.heap.size _ _ _ _ _ _ _ _ _ _ _ rfl (Bk.two w _ _)) rfl ⟨⟨_, _, rfl, sp_bad (V := (kE : Int)) HN.out g1 (by rw [H6.out]) H1.out H3.out (pwY_no (by unfold oOk; rw [H4.out, HO3.out, Bool.and_false]))⟩, keep_two w _ _⟩
                          | true =>
                            have hcut3 : ∀ wx, (Instr.slice 9 (.string ⟨s.toArray⟩) (some (.int .i64 ((k3 : Int) + 1))) (some (.int .i64 (kE : Int))) none).run Tryd.prog wx = .ok (.string ⟨pw.toArray⟩) wx := fun wx => by
                              have hle : k4 ≤ kE := by
                                have a := (o_power OK.out (by rw [H4.out]; exact HQ.out)).1
                                rw [H6.out, H4.out, H7.out] at a
                                omega
                              have a := run_cut s (k3 + 1) kE (by have := HK4L.out.1; omega) (by rw [HL.out]; exact HKE.out) wx
                              have b : (s.take kE).drop (k3 + 1) = pw := by
                                rw [← H5.out]
                                unfold pwX
                                rw [H4.out, HQ.out, H6.out]
                                rfl
                              rw [b] at a
                              exact a
                            go_wp2_with fail
                            go_meet
                            case rel => exact ⟨rfl, HO3, rfl⟩
                    | false =>
                      have HO3 : Hid (qOk s k3 = true) := by
                        unfold Hid qOk
                        rw [HQ.out]
                        rfl
                      have e3 : Hid (k3 = kE) := by
                        rw [← H6.out, (o_plain OK.out (by rw [H4.out]; exact HQ.out)).1, H4.out]
                        exact rfl
                      have e4 : Hid ([] = pw) := by
                        rw [← H5.out]
                        unfold pwX
                        rw [H4.out, HQ.out]
                        exact rfl
                      go_wp2_with fail
                      go_meet
                      case rel => exact ⟨by rw [e3.out], HO3, by rw [← e4.out]⟩
                  case rest =>
                    obtain ⟨rfl, HO3, rfl⟩ := hcut
                    by_cases hl : kE < L
                    · have hl2 : (kE : Int) < (L : Int) := by omega
                      go_wp2_with fail
                      have g1 : ¬ oGood s := by
                        rintro ⟨-, a⟩
                        rw [H6.out, HL.out] at a
                        omega
                      exact bodyPost_ret (results_box11 rfl _ _ w.heap.size _ _ _ _ _ _ _ _ _ _ _ rfl (Bk.two w _ _)) rfl ⟨⟨_, _, rfl, sp_bad (V := (kE : Int)) HN.out g1 (by rw [H6.out]) H1.out H3.out (by rw [pwY_yes (by unfold oOk; rw [OK.out, H4.out, HO3.out]; rfl)]; exact H5.out : pwY s = pw)⟩, keep_two w _ _⟩
                    · have hl2 : ¬ (kE : Int) < (L : Int) := by omega
                      go_wp2_with fail
                      have g1 : oGood s := by
                        refine ⟨?_, ?_⟩
                        · unfold oOk
                          rw [OK.out, H4.out, HO3.out]
                          rfl
                        · rw [H6.out, HL.out]
                          have := HKE.out
                          omega
                      exact bodyPost_ret (results_box11 rfl _ _ w.heap.size _ _ _ _ _ _ _ _ _ _ _ rfl (Bk.two w _ _)) rfl ⟨⟨_, _, rfl, sp_good HN.out g1 H1.out H3.out H5.out⟩, keep_two w _ _⟩
end Go.Proofs.YtgciimjcdhallaaDoor
