import Derived.Test.YtpdjpjkieafnbaaGreatDoorProg
import Derived.Test.YtpdjpjkieafnbaaGreatDoorLK1
import Derived.Test.YtpdjpjkieafnbaaGreatDoorLE7
import Derived.Test.YtpdjpjkieafnbaaGreatDoorShelf
import Derived.Test.YtpdjpjkieafnbaaGreatDoorNC3
import Derived.WalkKit
import Derived.WalkSpells
import Derived.WalkLawsBesides
import Derived.Laws.CopyOwn
import Derived.Deep.Draws
import Derived.Deep.QuietTactic
import Derived.BigQuiet
import Derived.Laws.MathBits
import Derived.Laws.BytesArg
import Derived.Lib.OthersKept
import Derived.Deep.RegionWith
import Derived.WalkMore
import Derived.Deep.LoopGhost
import Derived.Laws.Externs
import Derived.Deep.Cut
import Derived.Deep.CutRange
import Derived.Deep.CutBlock
import Derived.Deep.RegionHeld3
set_option linter.unusedVariables false
set_option linter.unusedSimpArgs false
namespace Go.Proofs.YtpdjpjkieafnbaaGreatDoor.Li
open Go.RowKit Lb Nr
theorem or1 (q : Nat) (h : q < 18446744073709551616) : bits .or .u64 (q : Int) 1 = ((q ||| 1 : Nat) : Int) := by
  rw [show (1 : Int) = ((1 : Nat) : Int) from rfl, u64_or_nat q 1 h (by omega)]
set_option maxRecDepth 100000 in
set_option maxHeartbeats 1000000 in
theorem nearest_any (v1 v2 : Value) (N D K : Nat) (w : World) (h1 : Lv w v1 N K) (h2 : Lv w v2 D K) (hK : K ≤ 35184372087850) (hN : 0 < N) (hD : 0 < D) :
    Calls Tryz.prog 71 #[fmtV, v1, v2] w fun e w' => ∃ x : Nat, e = .returned (.int .u64 (x : Nat)) ∧ (∀ E, IsE N D E → x = wb (rup (sA N E) (sB D E)) E) ∧ Keep w w' := by
  have hI := infinity_any
  have L1 := fun wx (kx : Keep w wx) => Len_lv v1 N K wx (h1.keep kx) (by omega)
  have L2 := fun wx (kx : Keep w wx) => Len_lv v2 D K wx (h2.keep kx) (by omega)
  have hs1 : 0 < sz N := (sz_ge hN).2
  have hbN : sz N ≤ 32 * K := sz_le (by rw [← word_pow]; exact h1.lt)
  have hbD : sz D ≤ 32 * K := sz_le (by rw [← word_pow]; exact h2.lt)
  have hz : ((sz N : Int) == 0) = false := by rw [beq_eq_false_iff_ne]; omega
  obtain ⟨A, hA⟩ : ∃ A : Int, (sz N : Int) - (sz D : Int) = A := ⟨_, rfl⟩
  have hw : wrap64 ((sz N : Int) - (sz D : Int)) = A := by rw [hA]; exact IntWalk.wrap64_in _ (by omega)
  have HH := @far_high N D hN hD
  have HL := @far_low N D hD
  have HM := @main_E N D hN hD
  rw [hA] at HH HL HM
  replace HH : Hid _ := HH
  replace HL : Hid _ := HL
  unfold fmtV at *
  obtain ⟨w0, hw0, k0, tb⟩ : ∃ w0, w.alloc (Obj.cells #[.int .i64 52, .int .i64 2047, .int .i64 (-1074)] 85) = w0 ∧ Keep w w0 ∧ w0.heap[w.heap.size]? = some (Obj.cells #[.int .i64 52, .int .i64 2047, .int .i64 (-1074)] 85 (0, 0)) := ⟨_, rfl, (Keep.refl w).alloc _, heap_alloc_new w _⟩
  have c0 := cell_of_row _ _ 0 _ 85 (0, 0) tb
  have c1 := cell_of_row _ _ 1 _ 85 (0, 0) tb
  have c2 := cell_of_row _ _ 2 _ 85 (0, 0) tb
  simp only [List.getElem?_toArray, List.getElem?_cons_zero, List.getElem?_cons_succ] at c0 c1 c2
  by_cases q1 : A < -1100
  · have d1 : decide (A < -1100) = true := decide_eq_true q1
    go_enter Tryz.func71, Tryz.ntmps71
    go_wp2_with fail
    refine (L1 _ k0).mono ?_
    rintro e wx ⟨rfl, rfl⟩
    go_wp2_with fail
    refine (L2 _ k0).mono ?_
    rintro e wx ⟨rfl, rfl⟩
    go_wp2_with fail
    refine (L1 _ k0).mono ?_
    rintro e wx ⟨rfl, rfl⟩
    go_wp2_with fail
    go_ret
    exact ⟨0, rfl, fun E hE => (HL.out q1 hE).symm, k0⟩
  · have d1 : decide (A < -1100) = false := decide_eq_false q1
    by_cases q2 : 1100 < A
    · have d2 : decide (1100 < A) = true := decide_eq_true q2
      go_enter Tryz.func71, Tryz.ntmps71
      go_wp2_with fail
      refine (L1 _ k0).mono ?_
      rintro e wx ⟨rfl, rfl⟩
      go_wp2_with fail
      refine (L2 _ k0).mono ?_
      rintro e wx ⟨rfl, rfl⟩
      go_wp2_with fail
      refine (L1 _ k0).mono ?_
      rintro e wx ⟨rfl, rfl⟩
      go_wp2_with fail
      refine (hI _).mono ?_
      rintro e w9 ⟨rfl, k9⟩
      go_wp2_with fail
      go_ret
      exact ⟨_, rfl, fun E hE => (HH.out q2 hE).symm, k0.trans k9⟩
    · have d2 : decide (1100 < A) = false := decide_eq_false q2
      clear HH HL
      have w1 : wrap64 (A - 52) = A - 52 := IntWalk.wrap64_in _ (by omega)
      have w2 : wrap64 (A - 52 - 1) = A - 52 - 1 := IntWalk.wrap64_in _ (by omega)
      obtain ⟨X, hX⟩ : ∃ X : Int, max (A - 52 - 1) (-1074) = X := ⟨_, rfl⟩
      have hXb : -1074 ≤ X ∧ X ≤ 1100 := by omega
      have w3 : wrap64 (X - 2) = X - 2 := IntWalk.wrap64_in _ (by omega)
      obtain ⟨hq, d, hd, hdm, hE, hR⟩ := HM (e1 := X - 2) (by omega)
      have w4 : wrap64 (-(X - 2)) = -(X - 2) := IntWalk.wrap64_in _ (by omega)
      have hSc := fun wx (kx : Keep w wx) => scaled_lv v1 v2 N D K (-(X - 2)) wx (h1.keep kx) (h2.keep kx) (by omega) (by omega)
      have e1 : N * 2 ^ (-(X - 2)).toNat = sA N (X - 2) := rfl
      have e2 : D * 2 ^ (- -(X - 2)).toNat = sB D (X - 2) := by rw [Int.neg_neg]; rfl
      rw [e1, e2] at hSc
      have hB := sB_pos hD (X - 2)
      have hDM := fun a1 a2 wx g1 g2 => DivMod_lv a1 a2 (sA N (X - 2)) (sB D (X - 2)) (K + 100) wx g1 g2 (by omega) hB
      have e3 : sA N (X - 2) / sB D (X - 2) = fl N D (X - 2) := rfl
      rw [e3] at hDM
      have HE1 : Hid (∀ E, IsE N D E → E = X - 2 + d) := fun E hE' => isE_one hD hE' hE
      obtain ⟨q, hqe⟩ : ∃ q, fl N D (X - 2) = q := ⟨_, rfl⟩
      obtain ⟨r, hre⟩ : ∃ r, sA N (X - 2) % sB D (X - 2) = r := ⟨_, rfl⟩
      have hM53 := (small_E hD hE).1
      rw [hqe, hre] at hR
      rw [hqe] at hq hdm hDM
      rw [hre] at hDM
      rw [hR] at hM53
      have hSm := fun v wx h => Small_lv v q (K + 100) wx h (by omega) (by omega)
      have hLr := fun v wx h => Len_lv v r (K + 100) wx h (by omega)
      have hLq := fun v wx h => Len_lv v q (K + 100) wx h (by omega)
      obtain ⟨n, hn⟩ : ∃ n, (if r = 0 then q else q ||| 1) = n := ⟨_, rfl⟩
      have hnb : n < 1152921504606846976 := by
        rw [← hn]
        split
        · omega
        · rw [or_one]; omega
      rw [hn] at hR hM53
      have hWb := fun wx => withoutBits_any n d hd hnb wx
      have hdb : (2 : Int) ≤ (d : Int) ∧ (d : Int) ≤ 3 := by omega
      have hBi := fun wx => bits_any (rup n (2 ^ d)) (X - 2 + d) hM53 (by omega) wx
      unfold fmtV at hBi
      have w5 : wrap64 (X - 2 + (d : Int)) = X - 2 + (d : Int) := IntWalk.wrap64_in _ (by omega)
      have w6 : wrap64 ((sz q : Int) - 52) = (sz q : Int) - 52 := by have := sz_le (n := q) (k := 56) (by omega); exact IntWalk.wrap64_in _ (by omega)
      have w7 : wrap64 ((sz q : Int) - 52 - 1) = (sz q : Int) - 52 - 1 := by
        have := sz_le (n := q) (k := 56) (by omega)
        exact IntWalk.wrap64_in _ (by omega)
      have ho := or1 q (by omega)
      replace hdm : max ((sz q : Int) - 52 - 1) 2 = (d : Int) := by omega
      have hr0 : (r = 0 ∧ n = q ∧ decide ((0 : Int) < (sz r : Int)) = false) ∨ (r ≠ 0 ∧ n = (q ||| 1) ∧ decide ((0 : Int) < (sz r : Int)) = true) := by
        by_cases g : r = 0
        · rw [if_pos g] at hn
          refine .inl ⟨g, hn.symm, decide_eq_false ?_⟩
          rw [g]
          simp [sz]
        · rw [if_neg g] at hn
          refine .inr ⟨g, hn.symm, decide_eq_true ?_⟩
          have := (sz_ge (show 0 < r by omega)).2
          omega
      have HF : Hid (rup (sA N (X - 2 + d)) (sB D (X - 2 + d)) = rup n (2 ^ d)) := hR
      obtain ⟨M, hM⟩ : ∃ M, rup n (2 ^ d) = M := ⟨_, rfl⟩
      rw [hM] at HF hBi hWb
      clear HM hd hq hE hR e1 e2 e3 hB hqe hre hM53 hn hnb hM hs1 hbN hbD hA hI
      go_enter Tryz.func71, Tryz.ntmps71
      go_wp2_with fail
      refine (L1 _ k0).mono ?_
      rintro e wx ⟨rfl, rfl⟩
      go_wp2_with fail
      refine (L2 _ k0).mono ?_
      rintro e wx ⟨rfl, rfl⟩
      go_wp2_with fail
      refine (L1 _ k0).mono ?_
      rintro e wx ⟨rfl, rfl⟩
      go_wp2_with fail
      refine (hSc _ k0).mono ?_
      rintro e wa ⟨a1, a2, rfl, g1, g2, k1⟩
      go_wp2_with fail
      refine (hDM a1 a2 _ g1 g2).mono ?_
      rintro e wb2 ⟨vq, vr, rfl, nq1, nr1, k2⟩
      go_wp2_with fail
      refine (hSm vq _ nq1).mono ?_
      rintro e wx ⟨bb, rfl, rfl⟩
      go_wp2_with fail
      refine (hLr vr _ nr1).mono ?_
      rintro e wy ⟨rfl, rfl⟩
      have kk := (k0.trans k1).trans k2
      have t2 := ((k1.trans k2).block w.heap.size (Array.getElem?_eq_some_iff.1 tb).1).trans tb
      clear c0 c1 c2
      have c0 := cell_of_row _ _ 0 _ 85 (0, 0) t2
      have c1 := cell_of_row _ _ 1 _ 85 (0, 0) t2
      have c2 := cell_of_row _ _ 2 _ 85 (0, 0) t2
      simp only [List.getElem?_toArray, List.getElem?_cons_zero, List.getElem?_cons_succ] at c0 c1 c2
      have hLq' := fun wz (kx : Keep wy wz) => hLq vq wz (nq1.keep kx)
      clear L1 L2 hSc hDM hSm hLr g1 g2 h1 h2 hLq
      rcases hr0 with ⟨rfl, rfl, hr0⟩ | ⟨hrn, hne, hr0⟩
      · go_upto_region 12 with fail
        go_cut [14] from 67 to 73 (fun s14 wx => s14 = .int .i64 (d : Nat) ∧ Keep wy wx)
        case first =>
          go_region_with (go_at_call 70; refine (hLq' _ ?_).mono ?_; (first | exact Keep.refl _ | exact (Keep.refl _).drew | exact (Keep.refl _).drew.drew); rintro e wz ⟨rfl, rfl⟩)
          all_goals
            go_wp2_with fail
            go_meet
            exact ⟨by rw [IntWalk.i64_left, IntWalk.i64_left, w6, w7, hdm], by first | exact Keep.refl _ | exact (Keep.refl _).drew | exact (Keep.refl _).drew.drew | exact (Keep.refl _).drew.drew.drew⟩
        case rest =>
          obtain ⟨rfl, kc⟩ := hcut
          have s0 := Keep.cell kc c0
          have s1 := Keep.cell kc c1
          have s2 := Keep.cell kc c2
          clear hLq' c0 c1 c2 t2 tb nq1 nr1
          go_upto_region 13 with fail
          obtain ⟨g, hg⟩ : ∃ g, w.heap.size = g := ⟨_, rfl⟩
          rw [hg] at s0 s1 s2
          rw [hg]
          have w5' : IntKind.i64.wrap (X - 2 + (d : Int)) = X - 2 + (d : Int) := by rw [IntWalk.i64_left]; exact w5
          clear hw w1 w2 w3 w4 w6 w7 hdm ho hr0 d1 d2 hz hdb
          go_region_with (first
            | (go_at_call 116; refine (hWb _).mono ?_; rintro e wA ⟨rfl, kA⟩; have kA' := kA.keep; have p0 := Keep.cell kA' s0; have p1 := Keep.cell kA' s1; have p2 := Keep.cell kA' s2)
            | (go_at_call 115; refine (hBi _).mono ?_; rintro e wB ⟨rfl, kB⟩))
          all_goals
            go_wp2_with fail
            go_ret
            refine ⟨_, rfl, fun E hE => ?_, ?_⟩
            · rw [HE1.out E hE, HF.out]
            · have k9 := kk.trans kc
              first
                | exact ((k9.drew.trans kA').trans kB)
                | exact ((k9.drew.trans kA').trans kB).drew
                | exact ((k9.drew.trans kA').drew.trans kB)
                | exact ((k9.drew.trans kA').drew.trans kB).drew
                | exact ((k9.drew.drew.trans kA').trans kB)
                | exact ((k9.drew.drew.trans kA').trans kB).drew
                | exact ((k9.drew.drew.trans kA').drew.trans kB)
                | exact ((k9.trans kA').drew.trans kB)
                | exact ((k9.drew.trans kA').drew.drew.trans kB)
                | exact ((k9.trans kA').trans kB)
      · subst hne
        have hsz : 0 < sz r := (sz_ge (show 0 < r by omega)).2
        go_upto_region 12 with fail
        go_cut [14] from 67 to 73 (fun s14 wx => s14 = .int .i64 (d : Nat) ∧ Keep wy wx)
        case first =>
          go_region_with (go_at_call 70; refine (hLq' _ ?_).mono ?_; (first | exact Keep.refl _ | exact (Keep.refl _).drew | exact (Keep.refl _).drew.drew); rintro e wz ⟨rfl, rfl⟩)
          all_goals
            go_wp2_with fail
            go_meet
            exact ⟨by rw [IntWalk.i64_left, IntWalk.i64_left, w6, w7, hdm], by first | exact Keep.refl _ | exact (Keep.refl _).drew | exact (Keep.refl _).drew.drew | exact (Keep.refl _).drew.drew.drew⟩
        case rest =>
          obtain ⟨rfl, kc⟩ := hcut
          have s0 := Keep.cell kc c0
          have s1 := Keep.cell kc c1
          have s2 := Keep.cell kc c2
          clear hLq' c0 c1 c2 t2 tb nq1 nr1
          go_upto_region 13 with fail
          obtain ⟨g, hg⟩ : ∃ g, w.heap.size = g := ⟨_, rfl⟩
          rw [hg] at s0 s1 s2
          rw [hg]
          have w5' : IntKind.i64.wrap (X - 2 + (d : Int)) = X - 2 + (d : Int) := by rw [IntWalk.i64_left]; exact w5
          clear hw w1 w2 w3 w4 w6 w7 hdm ho hr0 d1 d2 hz hdb
          go_region_with (first
            | (go_at_call 116; refine (hWb _).mono ?_; rintro e wA ⟨rfl, kA⟩; have kA' := kA.keep; have p0 := Keep.cell kA' s0; have p1 := Keep.cell kA' s1; have p2 := Keep.cell kA' s2)
            | (go_at_call 115; refine (hBi _).mono ?_; rintro e wB ⟨rfl, kB⟩))
          all_goals
            go_wp2_with fail
            go_ret
            refine ⟨_, rfl, fun E hE => ?_, ?_⟩
            · rw [HE1.out E hE, HF.out]
            · have k9 := kk.trans kc
              first
                | exact ((k9.drew.trans kA').trans kB)
                | exact ((k9.drew.trans kA').trans kB).drew
                | exact ((k9.drew.trans kA').drew.trans kB)
                | exact ((k9.drew.trans kA').drew.trans kB).drew
                | exact ((k9.drew.drew.trans kA').trans kB)
                | exact ((k9.drew.drew.trans kA').trans kB).drew
                | exact ((k9.drew.drew.trans kA').drew.trans kB)
                | exact ((k9.trans kA').drew.trans kB)
                | exact ((k9.drew.trans kA').drew.drew.trans kB)
                | exact ((k9.trans kA').trans kB)
end Go.Proofs.YtpdjpjkieafnbaaGreatDoor.Li
