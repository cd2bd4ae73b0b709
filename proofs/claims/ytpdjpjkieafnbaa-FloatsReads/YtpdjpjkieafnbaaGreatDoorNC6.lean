import Derived.Test.YtpdjpjkieafnbaaGreatDoorNC10
import Derived.Test.YtpdjpjkieafnbaaGreatDoorNB2
import Derived.Test.YtpdjpjkieafnbaaGreatDoorNC3
set_option linter.unusedVariables false
set_option linter.unusedSimpArgs false
namespace Go.Proofs.YtpdjpjkieafnbaaGreatDoor.Li
open Go.RowKit Lb Nr
set_option maxRecDepth 100000 in
set_option maxHeartbeats 1000000 in
theorem rnearest_any (v1 v2 : Value) (N D k : Nat) (w : World) (h1 : Nv w v1 N) (h2 : Nv w v2 D) (hk : k ≤ 35184372087900) (hN1 : N < 4294967296 ^ k) (hD1 : D < 4294967296 ^ k) (hN : 0 < N) (hD : 0 < D) :
    Calls Tryz.prog 54 #[v1, v2, wideV] w fun e w' => ∃ E, IsE N D E ∧ e = .returned (nearV (rup (sA N E) (sB D E)) E false) ∧ Keep w w' := by
  have S1 := fun wx (kx : Keep w wx) => size_same v1 N k wx (h1.keep kx) hN1 (by omega)
  have S2 := fun wx (kx : Keep w wx) => size_same v2 D k wx (h2.keep kx) hD1 (by omega)
  have U1 := fun (z : Nat) (hz : z ≤ 1074) wx (kx : Keep w wx) => up_nv v1 N z k wx (h1.keep kx) hN1 (by omega) (by omega)
  have hbN : sz N ≤ 32 * k := sz_le (by rw [← word_pow]; exact hN1)
  have hbD : sz D ≤ 32 * k := sz_le (by rw [← word_pow]; exact hD1)
  have hDs : D < 4294967296 ^ ((sz D + 31) / 32) := by
    rw [word_pow]
    exact Nat.lt_of_lt_of_le (sz_lt D) (Nat.pow_le_pow_right (by omega) (by omega))
  have U2 := fun (z : Nat) (hz : (z : Int) ≤ (sz N : Int) - (sz D : Int)) wx (kx : Keep w wx) => up_nv v2 D z ((sz D + 31) / 32) wx (h2.keep kx) hDs (by omega) (by omega)
  clear hDs
  obtain ⟨he0, he1⟩ := e0_ok hN hD
  have hE0 : e0 N D = max ((sz N : Int) - (sz D : Int) - 54) (-1074) := rfl
  generalize e0 N D = E0 at *
  have HN1 : Hid (N < 4294967296 ^ k) := hN1
  have HD1 : Hid (D < 4294967296 ^ k) := hD1
  clear hN1 hD1
  unfold wideV
  obtain ⟨w0, hw0, k0, tb, tr⟩ : ∃ w0, (w.alloc (Obj.cells #[.int .i64 53, .int .i64 (-1074), .int .i64 971] 32)).alloc (Obj.cells #[.bool false, .bool false, .bool false, .int .u64 0, .int .i64 0] 28) = w0 ∧ Keep w w0 ∧ w0.heap[w.heap.size]? = some (Obj.cells #[.int .i64 53, .int .i64 (-1074), .int .i64 971] 32 (0, 0)) ∧ w0.heap[w.heap.size + 1]? = some (Obj.cells #[.bool false, .bool false, .bool false, .int .u64 0, .int .i64 0] 28 (0, 0)) := by
    refine ⟨_, rfl, ((Keep.refl w).alloc _).alloc _, ?_, ?_⟩
    · have hs : w.heap.size < (w.alloc (Obj.cells #[.int .i64 53, .int .i64 (-1074), .int .i64 971] 32)).heap.size := by simp
      exact (((Keep.refl (w.alloc (Obj.cells #[.int .i64 53, .int .i64 (-1074), .int .i64 971] 32))).alloc _).block _ hs).trans (heap_alloc_new w _)
    · have hs : (w.alloc (Obj.cells #[.int .i64 53, .int .i64 (-1074), .int .i64 971] 32)).heap.size = w.heap.size + 1 := by simp
      rw [← hs]
      exact heap_alloc_new _ _
  have c0 := cell_of_row _ _ 0 _ 32 (0, 0) tb
  have c1 := cell_of_row _ _ 1 _ 32 (0, 0) tb
  have c2 := cell_of_row _ _ 2 _ 32 (0, 0) tb
  simp only [List.getElem?_toArray, List.getElem?_cons_zero, List.getElem?_cons_succ] at c0 c1 c2
  have hA : -10000000000000000 ≤ (sz N : Int) - (sz D : Int) ∧ (sz N : Int) - (sz D : Int) ≤ 10000000000000000 := by omega
  have S1' := fun wx (kx : Keep w0 wx) => S1 wx (k0.trans kx)
  have S2' := fun wx (kx : Keep w0 wx) => S2 wx (k0.trans kx)
  go_enter Tryz.func54, Tryz.ntmps54
  have x1 : IntKind.i64.wrap ((sz N : Int) - (sz D : Int)) = (sz N : Int) - (sz D : Int) := by rw [IntWalk.i64_left]; exact IntWalk.wrap64_in _ (by omega)
  have x2 : IntKind.i64.wrap ((sz N : Int) - (sz D : Int) - 53) = (sz N : Int) - (sz D : Int) - 53 := by rw [IntWalk.i64_left]; exact IntWalk.wrap64_in _ (by omega)
  obtain ⟨A, hA4⟩ : ∃ A : Int, (sz N : Int) - (sz D : Int) - 53 - 1 = A := ⟨_, rfl⟩
  have x3 : IntKind.i64.wrap ((sz N : Int) - (sz D : Int) - 53 - 1) = A := by rw [IntWalk.i64_left, hA4]; exact IntWalk.wrap64_in _ (by omega)
  replace hA4 : Hid _ := hA4
  replace hE0 : Hid _ := hE0
  go_upto_region 1 with fail
  go_cut [7] from 13 to 21 (fun s7 wx => s7 = .int .i64 A ∧ Keep w0 wx)
  case first =>
    go_region_with (first
      | (go_at_call_of 50 v1; refine (S1' _ ?_).mono ?_; (first | exact Keep.refl _ | exact (Keep.refl _).drew | exact (Keep.refl _).drew.drew | exact (Keep.refl _).drew.drew.drew); rintro e wz ⟨rfl, rfl⟩)
      | (go_at_call_of 50 v2; refine (S2' _ ?_).mono ?_; (first | exact Keep.refl _ | exact (Keep.refl _).drew | exact (Keep.refl _).drew.drew | exact (Keep.refl _).drew.drew.drew); rintro e wz ⟨rfl, rfl⟩))
    all_goals
      go_wp2_with fail
      go_meet
      exact ⟨by first | rfl | (rw [x1, x2, x3]), by first | exact Keep.refl _ | exact (Keep.refl _).drew | exact (Keep.refl _).drew.drew | exact (Keep.refl _).drew.drew.drew⟩
  case rest =>
    obtain ⟨rfl, kc⟩ := hcut
    have s0 := Keep.cell kc c0
    have s1 := Keep.cell kc c1
    have s2 := Keep.cell kc c2
    have kw := k0.trans kc
    have tb' := (kc.block _ (Array.getElem?_eq_some_iff.1 tb).1).trans tb
    have tr' := (kc.block _ (Array.getElem?_eq_some_iff.1 tr).1).trans tr
    clear c0 c1 c2 x1 x2 x3 S1 S2 S1' S2' tb tr hw0
    go_upto_if 25 with fail
    go_cut [7] from 22 to 27 (fun s7 wx => s7 = .int .i64 E0 ∧ wc = wx)
    case first =>
      by_cases hlt : A < -1074
      · have d1 : decide (A < -1074) = true := decide_eq_true hlt
        go_wp2_with fail
        go_meet
        exact ⟨by rw [show E0 = -1074 by have := hE0.out; have := hA4.out; omega], rfl⟩
      · have d1 : decide (A < -1074) = false := decide_eq_false hlt
        go_wp2_with fail
        go_meet
        exact ⟨by rw [show E0 = A by have := hE0.out; have := hA4.out; omega], rfl⟩
    case rest =>
      obtain ⟨rfl, rfl⟩ := hcut
      go_wp2_with fail
      go_loopg [7] (fl N D E0) (fun gg s7 wx => ∃ E : Int, gg = fl N D E ∧ s7 = .int .i64 E ∧ -1074 ≤ E ∧ Hid (E = -1074 ∨ 9007199254740992 ≤ fl N D (E - 1)) ∧ Keep wc wx)
      case atStart => exact ⟨E0, rfl, rfl, he0, he1, Keep.refl _⟩
      case round =>
        obtain ⟨E, hgg, rfl, hEl, hEp, kr⟩ := hrel
        have hEu := e_le hD hEp.out
        have kwr := kw.trans kr
        have r0 := Keep.cell kr s0
        have r1 := Keep.cell kr s1
        have r2 := Keep.cell kr s2
        have hEb : -1074 ≤ E ∧ E ≤ 10000000000000000 := by omega
        go_upto_if 31 with fail
        go_cut [8, 9] from 28 to 98 (fun s8 s9 wx => Nv wx s8 (sA N E) ∧ Nv wx s9 (sB D E) ∧ Keep wr wx)
        case first =>
          by_cases hneg : E < 0
          · obtain ⟨z, hz⟩ : ∃ z : Nat, -E = (z : Int) := ⟨(-E).toNat, by omega⟩
            have d1 : decide (E < 0) = true := decide_eq_true hneg
            have y1 : wrap64 (-E) = (z : Int) := by rw [hz]; exact IntWalk.wrap64_in _ (by omega)
            have hzb : z ≤ 1074 := by omega
            have f1 : N * 2 ^ z = sA N E := by unfold sA; rw [show (-E).toNat = z by omega]
            have f2 : D = sB D E := by unfold sB; rw [show E.toNat = 0 by omega]; simp
            replace f1 : Hid _ := f1
            replace f2 : Hid _ := f2
            go_wp2_with (go_at_call 51; refine (U1 z hzb _ kwr).mono ?_; rintro e wz ⟨vz, rfl, nz, kz⟩)
            go_meet
            exact ⟨by rw [← f1.out]; exact nz, by rw [← f2.out]; exact h2.keep (kwr.trans kz), kz⟩
          · obtain ⟨z, rfl⟩ := Int.eq_ofNat_of_zero_le (show 0 ≤ E by omega)
            have d1 : decide (((z : Nat) : Int) < 0) = false := decide_eq_false hneg
            have hzb : ((z : Nat) : Int) ≤ (sz N : Int) - (sz D : Int) := by omega
            have f1 : N = sA N z := by unfold sA; rw [show (-((z : Nat) : Int)).toNat = 0 by omega]; simp
            have f2 : D * 2 ^ z = sB D z := by unfold sB; rw [show ((z : Nat) : Int).toNat = z by omega]
            replace f1 : Hid _ := f1
            replace f2 : Hid _ := f2
            go_wp2_with (go_at_call 51; refine (U2 z hzb _ kwr).mono ?_; rintro e wz ⟨vz, rfl, nz, kz⟩)
            go_meet
            exact ⟨by rw [← f1.out]; exact h1.keep (kwr.trans kz), by rw [← f2.out]; exact nz, kz⟩
        case rest =>
          obtain ⟨na, nb, kx⟩ := hcut
          have q0 := Keep.cell kx r0
          have q1 := Keep.cell kx r1
          have q2 := Keep.cell kx r2
          have kwc := kwr.trans kx
          obtain ⟨K, hK⟩ : ∃ K : Nat, K = k + 40 := ⟨_, rfl⟩
          have bA : sA N E < 4294967296 ^ K := by
            unfold sA
            refine Nat.lt_of_lt_of_le (Nat.mul_lt_mul_of_lt_of_le HN1.out (pow_small (-E).toNat 40 (by omega)) (Nat.pow_pos (by omega))) ?_
            rw [← Nat.pow_add]
            exact Nat.pow_le_pow_right (by omega) (by omega)
          have bB : sB D E < 4294967296 ^ K := by
            by_cases hE0' : E < 0
            · unfold sB
              rw [show E.toNat = 0 by omega, Nat.pow_zero, Nat.mul_one]
              exact Nat.lt_of_lt_of_le HD1.out (Nat.pow_le_pow_right (by omega) (by omega))
            · unfold sB
              refine Nat.lt_of_lt_of_le (Nat.mul_lt_mul_of_pos_right (sz_lt D) (Nat.two_pow_pos _)) ?_
              rw [← Nat.pow_add, word_pow]
              exact Nat.pow_le_pow_right (by omega) (by omega)
          have hKb : K ≤ 35184372087950 := by omega
          have bA' : Hid (sA N E < 4294967296 ^ K) := bA
          have bB' : Hid (sB D E < 4294967296 ^ K) := bB
          have zA : sz (sA N E) ≤ 32 * K := sz_le (by rw [← word_pow]; exact bA)
          have zB : sz (sB D E) ≤ 32 * K := sz_le (by rw [← word_pow]; exact bB)
          have Z1 := fun wx (ky : Keep wc wx) => size_same u8 (sA N E) K wx (na.keep ky) bA (by omega)
          have Z2 := fun wx (ky : Keep wc wx) => size_same u9 (sB D E) K wx (nb.keep ky) bB (by omega)
          have hDv := fun hs wx (ky : Keep wc wx) => divide_nv u8 u9 (sA N E) (sB D E) K wx (na.keep ky) (nb.keep ky) (sB_pos hD E) bA bB (by omega) hs
          have hbig := @fl_big N D E hN hD
          have hless := @q_less (sA N E) (sB D E) (sB_pos hD E)
          have x1 : IntKind.i64.wrap ((sz (sA N E) : Int) - (sz (sB D E) : Int)) = (sz (sA N E) : Int) - (sz (sB D E) : Int) := by rw [IntWalk.i64_left]; exact IntWalk.wrap64_in _ (by omega)
          have y2 : wrap64 (E + 1) = E + 1 := IntWalk.wrap64_in _ (by omega)
          clear bA bB U1 U2 r0 r1 r2
          replace hK : Hid _ := hK
          go_upto_region 9 with fail
          go_cut [47] from 28 to 98 (fun s47 wx => s47 = .bool (decide (55 < (sz (sA N E) : Int) - (sz (sB D E) : Int))) ∧ Keep wc wx)
          case first =>
            go_region_with (first
              | (go_at_call_of 50 u8; refine (Z1 _ ?_).mono ?_; (first | exact Keep.refl _ | exact (Keep.refl _).drew | exact (Keep.refl _).drew.drew | exact (Keep.refl _).drew.drew.drew); rintro e wz ⟨rfl, rfl⟩)
              | (go_at_call_of 50 u9; refine (Z2 _ ?_).mono ?_; (first | exact Keep.refl _ | exact (Keep.refl _).drew | exact (Keep.refl _).drew.drew | exact (Keep.refl _).drew.drew.drew); rintro e wz ⟨rfl, rfl⟩))
            all_goals
              go_wp2_with fail
              go_meet
              exact ⟨by first | rfl | (rw [x1]), by first | exact Keep.refl _ | exact (Keep.refl _).drew | exact (Keep.refl _).drew.drew | exact (Keep.refl _).drew.drew.drew⟩
          case rest =>
            obtain ⟨rfl, ky⟩ := hcut
            have p0 := Keep.cell ky q0
            have p1 := Keep.cell ky q1
            have p2 := Keep.cell ky q2
            have kwy := kwc.trans ky
            clear q0 q1 q2 Z1 Z2 x1
            by_cases big : 55 < (sz (sA N E) : Int) - (sz (sB D E) : Int)
            · have hb1 := hbig big
              have d1 : decide (55 < (sz (sA N E) : Int) - (sz (sB D E) : Int)) = true := decide_eq_true big
              rw [d1]
              have Hst : Hid (fl N D (E + 1) < fl N D E) := fl_step hD E hb1
              have Hpr : Hid (E + 1 = -1074 ∨ 9007199254740992 ≤ fl N D (E + 1 - 1)) := .inr (by rw [Int.add_sub_cancel]; exact hb1)
              clear hDv hbig hless hb1
              go_wp2_with fail
              go_roundg (fl N D (E + 1))
              case measure => rw [hgg]; exact Hst.out
              case rel => exact ⟨E + 1, rfl, rfl, by omega, Hpr, (kr.trans kx).trans ky⟩
            · have d1 : decide (55 < (sz (sA N E) : Int) - (sz (sB D E) : Int)) = false := decide_eq_false big
              rw [d1]
              have hD2 := hDv (by omega) _ ky
              have e3 : sA N E / sB D E % 18446744073709551616 = fl N D E := Nat.mod_eq_of_lt (hless (by omega))
              rw [e3] at hD2
              obtain ⟨q, hq⟩ : ∃ q, fl N D E = q := ⟨_, rfl⟩
              rw [hq] at hD2
              clear hDv hbig hless e3
              go_wp2_with fail
              refine hD2.mono ?_
              rintro e wd ⟨vr, rfl, nr, kd⟩
              have l0 := Keep.cell kd p0
              have l1 := Keep.cell kd p1
              have l2 := Keep.cell kd p2
              by_cases ge : 9007199254740992 ≤ q
              · have d2 : decide ((9007199254740992 : Int) ≤ (q : Int)) = true := decide_eq_true (by omega)
                have Hst : Hid (fl N D (E + 1) < fl N D E) := fl_step hD E (by omega)
                have Hpr : Hid (E + 1 = -1074 ∨ 9007199254740992 ≤ fl N D (E + 1 - 1)) := .inr (by rw [Int.add_sub_cancel]; omega)
                replace hq : Hid _ := hq
                clear ge
                go_wp2_with fail
                go_roundg (fl N D (E + 1))
                case measure => rw [hgg]; exact Hst.out
                case rel => exact ⟨E + 1, rfl, rfl, by omega, Hpr, ((kr.trans kx).trans ky).trans kd⟩
              · have d2 : decide ((9007199254740992 : Int) ≤ (q : Int)) = false := decide_eq_false (by omega)
                have hIs : Hid (IsE N D E) := ⟨hEl, by omega, hEp.out⟩
                have hqb : (q : Int) < 9007199254740992 := by omega
                replace hq : Hid _ := hq
                have ge' : Hid (q < 9007199254740992) := by show _ < _; omega
                clear ge
                go_upto_region 14 with fail
                have HR : Hid (rup (sA N E) (sB D E) = if sB D E < 2 * (sA N E % sB D E) ∨ 2 * (sA N E % sB D E) = sB D E ∧ sA N E / sB D E % 2 = 1 then sA N E / sB D E + 1 else sA N E / sB D E) := rfl
                have hrl := Nat.mod_lt (sA N E) (sB_pos hD E)
                obtain ⟨r, hr⟩ : ∃ r, sA N E % sB D E = r := ⟨_, rfl⟩
                obtain ⟨M, hM⟩ : ∃ M, rup (sA N E) (sB D E) = M := ⟨_, rfl⟩
                obtain ⟨b, hb⟩ : ∃ b, sB D E = b := ⟨_, rfl⟩
                have hq' : sA N E / sB D E = q := hq.out
                rw [hr] at nr hrl
                rw [hM, hr, hq', hb] at HR
                rw [hb] at hrl
                have nb' := (nb.keep ky).keep kd
                rw [hb] at nb' bB'
                have hUp := up_nv vr r 1 K wd nr (Nat.lt_trans hrl bB'.out) (by omega) (by omega)
                have hCm := fun (v : Value) wx (kz : Keep wd wx) (nx : Nv wx v (r * 2 ^ 1)) => cmp_nv v u9 (r * 2 ^ 1) b (K + 1) wx nx (nb'.keep kz) (by
                  have := bB'.out
                  rw [Nat.pow_succ]
                  omega) (Nat.lt_of_lt_of_le bB'.out (Nat.pow_le_pow_right (by omega) (by omega))) (by omega)
                have hcs : (cmpN (r * 2 ^ 1) b = 1 ∧ M = q + 1) ∨ (cmpN (r * 2 ^ 1) b = 0 ∧ q % 2 = 1 ∧ M = q + 1) ∨ (cmpN (r * 2 ^ 1) b = 0 ∧ q % 2 = 0 ∧ M = q) ∨ (cmpN (r * 2 ^ 1) b = -1 ∧ M = q) := by
                  have h9 := HR.out
                  unfold cmpN
                  rw [Nat.pow_one]
                  rcases Nat.lt_trichotomy (r * 2) b with g1 | g1 | g1
                  · rw [if_pos g1]
                    rw [if_neg (by omega)] at h9
                    exact .inr (.inr (.inr ⟨rfl, h9⟩))
                  · rw [if_neg (by omega), if_neg (by omega)]
                    rcases Nat.mod_two_eq_zero_or_one q with g2 | g2
                    · rw [if_neg (by omega)] at h9
                      exact .inr (.inr (.inl ⟨rfl, g2, h9⟩))
                    · rw [if_pos (by omega)] at h9
                      exact .inr (.inl ⟨rfl, g2, h9⟩)
                  · rw [if_neg (by omega), if_pos g1]
                    rw [if_pos (by omega)] at h9
                    exact .inl ⟨rfl, h9⟩
                replace hM : Hid _ := hM
                have hMb : M ≤ 9007199254740992 := by have := ge'.out; omega
                clear HR hq' hrl nb' hb hr
                generalize cmpN (r * 2 ^ 1) b = C at *
                go_wp2_with (go_at_call 51; refine hUp.mono ?_; rintro e we ⟨vu, rfl, nu, ke⟩; have hCm' := hCm vu we ke nu)
                refine hCm'.mono ?_
                rintro e wf ⟨rfl, kf⟩
                have kwf := (((kwy.trans kd).trans ke).trans kf)
                have kall := ((((((kc.trans kr).trans kx).trans ky).trans kd).trans ke).trans kf)
                have j0 := Keep.cell (ke.trans kf) l0
                have j1 := Keep.cell (ke.trans kf) l1
                have j2 := Keep.cell (ke.trans kf) l2
                have trf := ((((((kr.trans kx).trans ky).trans kd).trans ke).trans kf).block _ (Array.getElem?_eq_some_iff.1 tr').1).trans tr'
                clear p0 p1 p2 l0 l1 l2 hUp hCm hCm' hD2
                obtain ⟨B, hB⟩ : ∃ B : Bool, B = decide (M = q + 1) := ⟨_, rfl⟩
                have hMB : M = if B then q + 1 else q := by
                  rw [hB]
                  rcases hcs with ⟨g, g1⟩ | ⟨g, g0, g1⟩ | ⟨g, g0, g1⟩ | ⟨g, g1⟩
                  all_goals (rw [g1]; simp)
                go_upto_region 15 with fail
                go_cut [78] from 28 to 98 (fun s78 wx => s78 = .bool B ∧ wf = wx)
                case first =>
                  rcases hcs with ⟨rfl, g1⟩ | ⟨rfl, g0, g1⟩ | ⟨rfl, g0, g1⟩ | ⟨rfl, g1⟩
                  all_goals
                    subst g1
                    simp at hB
                    subst hB
                    clear hMB
                    go_wp2_with fail
                    go_meet
                    exact ⟨by first | rfl | (congr 1; rw [beq_iff_eq]; omega) | (congr 1; rw [beq_eq_false_iff_ne]; omega), rfl⟩
                case rest =>
                  obtain ⟨rfl, rfl⟩ := hcut
                  clear hcs hB
                  go_upto_if 78 with fail
                  go_cut [10] from 28 to 98 (fun s10 wx => s10 = .int .u64 (M : Nat) ∧ wf = wx)
                  case first =>
                    have y3 : IntKind.u64.wrap ((q : Int) + 1) = (q : Int) + 1 := by rw [IntKind.wrap_u64]; omega
                    cases B
                    · simp at hMB
                      subst hMB
                      go_wp2_with fail
                      go_meet
                      exact ⟨rfl, rfl⟩
                    · simp at hMB
                      subst hMB
                      go_wp2_with fail
                      go_meet
                      exact ⟨by first | rfl | simp, rfl⟩
                  case rest =>
                    obtain ⟨rfl, rfl⟩ := hcut
                    have a0 := cell_of_row _ _ 0 _ 28 (0, 0) trf
                    have a1 := cell_of_row _ _ 1 _ 28 (0, 0) trf
                    have a2 := cell_of_row _ _ 2 _ 28 (0, 0) trf
                    have a3 := cell_of_row _ _ 3 _ 28 (0, 0) trf
                    have a4 := cell_of_row _ _ 4 _ 28 (0, 0) trf
                    simp only [List.getElem?_toArray, List.getElem?_cons_zero, List.getElem?_cons_succ] at a0 a1 a2 a3 a4
                    have b0 := frozen_of_row _ _ 0 _ 28 trf
                    have b1 := frozen_of_row _ _ 1 _ 28 trf
                    have b2 := frozen_of_row _ _ 2 _ 28 trf
                    have b3 := frozen_of_row _ _ 3 _ 28 trf
                    have b4 := frozen_of_row _ _ 4 _ 28 trf
                    have hgl : w.heap.size ≤ w.heap.size + 1 := Nat.le_succ _
                    have hkf : ∀ x0 x1 x2 x3 x4 : Value, Keep w (((((wf.setCell ⟨w.heap.size + 1, 0, none⟩ x0).setCell ⟨w.heap.size + 1, 1, none⟩ x1).setCell ⟨w.heap.size + 1, 2, none⟩ x2).setCell ⟨w.heap.size + 1, 3, none⟩ x3).setCell ⟨w.heap.size + 1, 4, none⟩ x4) := fun x0 x1 x2 x3 x4 =>
                      ((((kwf.setCell (p := ⟨w.heap.size + 1, 0, none⟩) hgl x0).setCell (p := ⟨w.heap.size + 1, 1, none⟩) hgl x1).setCell (p := ⟨w.heap.size + 1, 2, none⟩) hgl x2).setCell (p := ⟨w.heap.size + 1, 3, none⟩) hgl x3).setCell (p := ⟨w.heap.size + 1, 4, none⟩) hgl x4
                    replace hkf : Hid _ := hkf
                    have HT : Hid (rE M E = if M = 9007199254740992 then E + 1 else E) := rfl
                    have HS : Hid (rM M = if M = 9007199254740992 then 4503599627370496 else M) := rfl
                    clear hMb hqb ge' hMB h1 h2
                    by_cases m1 : M = 9007199254740992
                    · have c1 : ((M : Int) == 9007199254740992) = true := by rw [beq_iff_eq]; omega
                      have c2 : (M : Int) / 2 = 4503599627370496 := by omega
                      have hT := HT.out
                      have hS := HS.out
                      rw [if_pos m1] at hT hS
                      replace hT : Hid _ := hT
                      replace hS : Hid _ := hS
                      clear m1 HT HS
                      by_cases h9 : 971 < E + 1
                      · have d9 : decide (971 < E + 1) = true := decide_eq_true h9
                        replace h9 : Hid _ := h9
                        go_wp2_with fail
                        refine bodyPost_ret (results_cell_row rfl _ _ (w.heap.size + 1) 28 _ (0, 0) _ rfl (heap5 wf (w.heap.size + 1) _ _ _ _ _ trf) Tryz.underlying28 rfl (by kernel_rfl)) rfl ?_
                        refine ⟨E, hIs.out, ?_, hkf.out _ _ _ _ _⟩
                        rw [hM.out]
                        unfold nearV
                        rw [hT.out, if_pos h9.out]
                        rfl
                      · have d9 : decide (971 < E + 1) = false := decide_eq_false h9
                        replace h9 : Hid _ := h9
                        go_wp2_with fail
                        refine bodyPost_ret (results_cell_row rfl _ _ (w.heap.size + 1) 28 _ (0, 0) _ rfl (heap5 wf (w.heap.size + 1) _ _ _ _ _ trf) Tryz.underlying28 rfl (by kernel_rfl)) rfl ?_
                        refine ⟨E, hIs.out, ?_, hkf.out _ _ _ _ _⟩
                        rw [hM.out]
                        unfold nearV
                        rw [hT.out, hS.out, if_neg h9.out]
                        rfl
                    · have c1 : ((M : Int) == 9007199254740992) = false := by rw [beq_eq_false_iff_ne]; omega
                      have hT := HT.out
                      have hS := HS.out
                      rw [if_neg m1] at hT hS
                      replace hT : Hid _ := hT
                      replace hS : Hid _ := hS
                      clear m1 HT HS
                      by_cases h9 : 971 < E
                      · have d9 : decide (971 < E) = true := decide_eq_true h9
                        replace h9 : Hid _ := h9
                        go_wp2_with fail
                        refine bodyPost_ret (results_cell_row rfl _ _ (w.heap.size + 1) 28 _ (0, 0) _ rfl (heap5 wf (w.heap.size + 1) _ _ _ _ _ trf) Tryz.underlying28 rfl (by kernel_rfl)) rfl ?_
                        refine ⟨E, hIs.out, ?_, hkf.out _ _ _ _ _⟩
                        rw [hM.out]
                        unfold nearV
                        rw [hT.out, if_pos h9.out]
                        rfl
                      · have d9 : decide (971 < E) = false := decide_eq_false h9
                        replace h9 : Hid _ := h9
                        go_wp2_with fail
                        refine bodyPost_ret (results_cell_row rfl _ _ (w.heap.size + 1) 28 _ (0, 0) _ rfl (heap5 wf (w.heap.size + 1) _ _ _ _ _ trf) Tryz.underlying28 rfl (by kernel_rfl)) rfl ?_
                        refine ⟨E, hIs.out, ?_, hkf.out _ _ _ _ _⟩
                        rw [hM.out]
                        unfold nearV
                        rw [hT.out, hS.out, if_neg h9.out]
                        rfl
end Go.Proofs.YtpdjpjkieafnbaaGreatDoor.Li
