import Derived.Test.YtbpfpldahmfjaaaGreatDoorX8
set_option linter.unusedVariables false
set_option linter.unusedSimpArgs false
namespace Go.Proofs.YtbpfpldahmfjaaaGreatDoor.Li
open Go.RowKit Lb
set_option maxRecDepth 100000 in
set_option maxHeartbeats 2000000 in
theorem half_ok (v num den : Int) (w : World) (hB : Calls Tryz.prog 6 #[] w fun e w' => e = .returned (.bool true) ∧ Keep w w') (hv : -9223372036854775808 ≤ v ∧ v ≤ 9223372036854775807) (hnum : -9223372036854775808 ≤ num ∧ num ≤ 9223372036854775807) (hden : -9223372036854775808 ≤ den ∧ den ≤ 9223372036854775807) (h0 : den ≠ 0) (V E : Int) (hV : -9223372036854775808 ≤ V ∧ V ≤ 9223372036854775807)
    (hS1 : ∀ wx, Calls Tryz.prog 12 #[.int .i64 v, .int .i64 1, .int .i64 1] wx fun e w' => e = .returned (.tuple #[.int .i64 v, .int .i64 0]) ∧ Keep wx w')
    (hS2 : ∀ wx, Calls Tryz.prog 12 #[.int .i64 v, .int .i64 num, .int .i64 den] wx fun e w' => e = .returned (.tuple #[.int .i64 V, .int .i64 0]) ∧ Keep wx w')
    (N D : Nat) (hN : v.natAbs * num.natAbs = N) (hD : den.natAbs = D) (sv sn sd ps qs : Bool) (hsv : decide (v < 0) = sv) (hsn : decide (num < 0) = sn) (hsd : decide (den < 0) = sd) (hps : RS (sv != sn) N 1 = ps) (qn qd : Nat) (hqs : RS (ps != sd) N D = qs) (hqn : RN N D = qn) (hqd : RD N D = qd) (M : Nat) (hM : V.natAbs = M) (vs : Bool) (hvs : decide (V < 0) = vs) (A : Nat) (hA : PN qs (!vs) qn (M * qd) = A) (C : Int) (hC : ordV (false && !decide (RN A qd = 0)) (false && !decide (1 = 0)) (RN A qd * 2) (1 * RD A qd) = C) (b1 b2 b3 : Bool) (hb1x : decide (C < 0) = b1) (hb2x : (C == 0) = b2) (hb3x : (V.tmod 2 == 0) = b3) (hfin : (b1 || (b2 && b3)) = true) :
    Calls Tryz.prog 5 #[.int .i64 v, .int .i64 num, .int .i64 den] w fun e w' => e = .returned (.bool true) ∧ Keep w w' := by
  have hd0 : (den == 0) = false := by simpa using h0
  have hvb : (v != v) = false := by simp
  have hDp : 0 < D := by omega
  have hDb : D ≤ 9223372036854775808 := by omega
  have hNb : N ≤ 85070591730234615865843651857942052864 := by rw [← hN]; exact prod_small (by omega) (by omega)
  have hb1 : v.natAbs * num.natAbs < 4294967296 ^ 8 := by rw [hN]; exact big8 (by omega)
  have hqnb : qn ≤ 85070591730234615865843651857942052864 := by rw [← hqn]; exact Nat.le_trans (RN_le2 _ _) hNb
  have hqdb : 0 < qd ∧ qd ≤ 9223372036854775808 := by rw [← hqd]; exact ⟨RD_pos2 hDp, Nat.le_trans (RD_le2 _ _) hDb⟩
  have hW1 := fun wx => whole_c v _ sv hv.1 hv.2 rfl hsv wx
  have hW2 := fun wx => whole_c num _ sn hnum.1 hnum.2 rfl hsn wx
  have hWd := fun wx => whole_c den D sd hden.1 hden.2 hD hsd wx
  have HB : Hid (N ≤ 85070591730234615865843651857942052864 ∧ 0 < D ∧ D ≤ 9223372036854775808) := ⟨hNb, hDp, hDb⟩
  have HQ : Hid (qn ≤ 85070591730234615865843651857942052864 ∧ 0 < qd ∧ qd ≤ 9223372036854775808) := ⟨hqnb, hqdb⟩
  have HB1 : Hid (v.natAbs * num.natAbs < 4294967296 ^ 8) := hb1
  have HN : Hid (v.natAbs * num.natAbs = N) := hN
  have HPS : Hid (RS (sv != sn) N 1 = ps) := hps
  have HQS : Hid (RS (ps != sd) N D = qs ∧ RN N D = qn ∧ RD N D = qd) := ⟨hqs, hqn, hqd⟩
  have hWv := fun wx => whole_c V M vs hV.1 hV.2 hM hvs wx
  have hMb : Hid (M ≤ 9223372036854775808) := by unfold Hid; omega
  have HA : Hid (PN qs (!vs) qn (M * qd) = A) := hA
  have HC : Hid (ordV (false && !decide (RN A qd = 0)) (false && !decide (1 = 0)) (RN A qd * 2) (1 * RD A qd) = C) := hC
  have HF : Hid ((b1 || (b2 && b3)) = true) := hfin
  clear hA hC hM hvs hfin
  clear h0 hDp hDb hNb hb1 hqnb hqdb hN hps hqs hqn hqd hD hsv hsn hsd
  go_enter Tryz.func5, Tryz.ntmps5
  go_wp2_with fail
  refine hB.mono ?_
  rintro e w1 ⟨rfl, k1⟩
  go_wp2_with fail
  refine (hS1 _).mono ?_
  rintro e w2 ⟨rfl, k2⟩
  go_wp2_with fail
  refine (hS2 _).mono ?_
  rintro e w3 ⟨rfl, k3⟩
  have K3 : Hid (Keep w w3) := (k1.trans k2).trans k3
  clear k1 k2 k3 hS1 hS2 hB
  go_wp2_with fail
  refine (hW1 _).mono ?_
  rintro e w4 ⟨x4, y4, z4, rfl, Q4, k4⟩
  go_wp2_with fail
  refine (hW2 _).mono ?_
  rintro e w5 ⟨x5, y5, z5, rfl, Q5, k5⟩
  have Q4 := Q4.keep k5
  go_wp2_with fail
  have cT := Times_q w5 Q4 Q5 HB1.out (by decide)
  rw [HN.out, Nat.mul_one, RN_one, RD_one, show RE 1 = 0 from rfl, HPS.out] at cT
  refine cT.mono ?_
  rintro e w6 ⟨x6, y6, z6, rfl, Q6, k6⟩
  obtain ⟨s6, a6, l6, c6, b6, m6, f6, rfl, rfl, rfl⟩ := Q6.shape
  clear cT Q4 Q5 hW1 hW2 HB1 HN HPS
  obtain ⟨w7, hw7, k7, B7⟩ := box_named w6 (.bool s6) (.slice a6 l6 c6) (.slice b6 m6 f6)
  have K7 : Hid (Keep w w7) := (((K3.out.trans k4).trans k5).trans k6).trans k7
  have Q7 := Q6.keep k7
  obtain ⟨p0A, p1A, p2A⟩ := B7.cells
  clear k4 k5 k6 K3 Q6
  go_wp2_with fail
  obtain ⟨P, hP⟩ : ∃ P, w6.heap.size = P := ⟨_, rfl⟩
  rw [hP] at p0A p1A p2A B7
  rw [hP]
  clear hP hw7
  have hP7A : P < w7.heap.size := (Array.getElem?_eq_some_iff.1 B7).1
  have np7 : ¬ P = w7.heap.size := by omega
  have np7' : ¬ w7.heap.size = P := by omega
  have hE0 : True := trivial
  go_cut [12, 13] from 64 to 70 (fun sv se wx => se = .int .i64 0 ∧ QB w7 wx sv (RS (ps != sd) N D) (RN N D) (RD N D))
  case first =>
    go_region_held3 (fun w' => w'.cell? ⟨P, 0, none⟩ = some (Value.bool s6) ∧ w'.cell? ⟨P, 1, none⟩ = some (Value.slice a6 l6 c6) ∧ w'.cell? ⟨P, 2, none⟩ = some (Value.slice b6 m6 f6)) (go_keep) (first
      | (go_at_call 14; refine (hWd _).mono ?_; rintro e w8A ⟨x8A, y8A, z8A, rfl, Q8A, k8A⟩; obtain ⟨s8A, a8A, l8A, c8A, b8A, m8A, f8A, rfl, rfl, rfl⟩ := Q8A.shape; have kzA : Keep w7 w8A := (by first | exact ((Keep.refl w7).drew).trans k8A | exact (((Keep.refl w7).alloc _).drew).trans k8A); have q0A := Keep.cell kzA p0A; have q1A := Keep.cell kzA p1A; have q2A := Keep.cell kzA p2A; have hP8A : P < w8A.heap.size := Nat.lt_of_lt_of_le hP7A (Keep.le kzA); have np8A : ¬ P = w8A.heap.size := Nat.ne_of_lt hP8A; have np8'A : ¬ w8A.heap.size = P := fun h => np8A h.symm; first | (have bzA := Box.keep (w := (w7.alloc (Obj.cells #[.bool false, .slice none 0 0, .slice none 0 0] 37)).drew) (Box.new w7 (.bool false) (.slice none 0 0) (.slice none 0 0)) k8A) | skip)
      | (go_at_call 15; refine (by_q0 _ (Q7.keep (by first | exact kzA | exact kzA.alloc _)) (by first | exact Q8A | exact Q8A.keep ((Keep.refl _).alloc _)) HB.out.1 HB.out.2).mono ?_; rintro e w9A ⟨x9A, y9A, z9A, rfl, Q9A, k9A⟩; obtain ⟨s9A, a9A, l9A, c9A, b9A, m9A, f9A, rfl, rfl, rfl⟩ := Q9A.shape; have kz9A : Keep w7 w9A := (by first | exact kzA.trans k9A | exact (kzA.alloc _).trans k9A); have t0A := Keep.cell kz9A p0A; have t1A := Keep.cell kz9A p1A; have t2A := Keep.cell kz9A p2A; first | (have bz9A := bzA.keep k9A; obtain ⟨zz0A, zz1A, zz2A⟩ := bz9A.cells; have ff0A := bz9A.free 0; have ff1A := bz9A.free 1; have ff2A := bz9A.free 2) | (have bz9A := (Box.new w8A (.bool false) (.slice none 0 0) (.slice none 0 0)).keep k9A; obtain ⟨zz0A, zz1A, zz2A⟩ := bz9A.cells; have ff0A := bz9A.free 0; have ff1A := bz9A.free 1; have ff2A := bz9A.free 2) | (obtain ⟨w10A, hw10A, k10A, B10A⟩ := box_named w9A (.bool s9A) (.slice a9A l9A c9A) (.slice b9A m9A f9A); have u0A := Keep.cell k10A t0A; have u1A := Keep.cell k10A t1A; have u2A := Keep.cell k10A t2A)))
    all_goals go_simp
    all_goals go_wp2_with fail
    all_goals go_meet
    all_goals first
      | exact ⟨rfl, w9A.heap.size, s9A, a9A, l9A, c9A, b9A, m9A, f9A, rfl, Keep.le kz9A, B10A, Q9A.keep k10A, kz9A.trans k10A⟩
      | exact ⟨rfl, w8A.heap.size, s9A, a9A, l9A, c9A, b9A, m9A, f9A, rfl, Keep.le kzA, bz9A.set _ _ _, Q9A.box bz9A _ _ _, ((kz9A.setCell (Keep.le kzA) _).setCell (Keep.le kzA) _).setCell (Keep.le kzA) _⟩
      | exact ⟨rfl, w7.heap.size, s9A, a9A, l9A, c9A, b9A, m9A, f9A, rfl, Nat.le_refl _, bz9A.set _ _ _, Q9A.box bz9A _ _ _, ((kz9A.setCell (Nat.le_refl _) _).setCell (Nat.le_refl _) _).setCell (Nat.le_refl _) _⟩
  case rest =>
    obtain ⟨rfl, B, t, a, l, c, b, m, f, rfl, hBw, Bq, Qq, kq⟩ := hcut
    obtain ⟨wq, rfl⟩ : ∃ x, x = wc := ⟨_, rfl⟩
    clear p0A p1A p2A B7 Q7 hWd
    rw [HQS.out.1, HQS.out.2.1, HQS.out.2.2] at Qq
    have KC : Hid (Keep w wq) := K7.out.trans kq
    go_wp2_with fail
    obtain ⟨hc1, hc2⟩ := two_cells wq
    have k0 : Keep wq ((wq.alloc (Obj.cells #[.int .u32 1] 42)).alloc (Obj.cells #[.int .u32 2] 42)) := ((Keep.refl wq).alloc _).alloc _
    refine (Over_half _ wq.heap.size (wq.heap.size + 1) hc1 hc2).mono ?_
    rintro e w11 ⟨x11, y11, z11, rfl, Q11, k11⟩
    obtain ⟨s11, a11, l11, c11, b11, m11, f11, rfl, rfl, rfl⟩ := Q11.shape
    obtain ⟨w12, hw12, k12, B12⟩ := box_named w11 (.bool s11) (.slice a11 l11 c11) (.slice b11 m11 f11)
    have kc12 : Keep wq w12 := (k0.trans k11).trans k12
    have K12 : Hid (Keep w w12) := KC.out.trans kc12
    have Bq2 := Bq.keep kc12
    have Qq2 := Qq.keep kc12
    have Qh := Q11.keep k12
    clear hc1 hc2 k0 k11 k12 Bq Qq Q11 kq
    obtain ⟨h, hh⟩ : ∃ h, w11.heap.size = h := ⟨_, rfl⟩
    rw [hh] at B12
    go_wp2_with fail
    try rw [hh]
    clear hh hw12
    have hBl : B < w12.heap.size := (Array.getElem?_eq_some_iff.1 Bq2).1
    have hhl : h < w12.heap.size := (Array.getElem?_eq_some_iff.1 B12).1
    obtain ⟨p0B, p1B, p2B⟩ := Bq2.cells
    have hP7B : B < w12.heap.size := hBl
    have np7B : ¬ B = w12.heap.size := by omega
    have np7'B : ¬ w12.heap.size = B := by omega
    go_cut [24, 13] from 119 to 125 (fun sv se wx => se = .int .i64 0 ∧ QB w12 wx sv (RS (PG qs (!vs) qn (M * qd)) (PN qs (!vs) qn (M * qd)) qd) (RN (PN qs (!vs) qn (M * qd)) qd) (RD (PN qs (!vs) qn (M * qd)) qd))
    case first =>
      go_region_held3 (fun w' => w'.cell? ⟨B, 0, none⟩ = some (Value.bool t) ∧ w'.cell? ⟨B, 1, none⟩ = some (Value.slice a l c) ∧ w'.cell? ⟨B, 2, none⟩ = some (Value.slice b m f)) (go_keep) (first
        | (go_at_call 14; refine (hWv _).mono ?_; rintro e w8B ⟨x8B, y8B, z8B, rfl, Q8B, k8B⟩; obtain ⟨s8B, a8B, l8B, c8B, b8B, m8B, f8B, rfl, rfl, rfl⟩ := Q8B.shape; have kzB : Keep w12 w8B := (by first | exact ((Keep.refl w12).drew).trans k8B | exact (((Keep.refl w12).alloc _).drew).trans k8B); have q0B := Keep.cell kzB p0B; have q1B := Keep.cell kzB p1B; have q2B := Keep.cell kzB p2B; have hP8B : B < w8B.heap.size := Nat.lt_of_lt_of_le hP7B (Keep.le kzB); have np8B : ¬ B = w8B.heap.size := Nat.ne_of_lt hP8B; have np8'B : ¬ w8B.heap.size = B := fun h => np8B h.symm; first | (have bzB := Box.keep (w := (w12.alloc (Obj.cells #[.bool false, .slice none 0 0, .slice none 0 0] 37)).drew) (Box.new w12 (.bool false) (.slice none 0 0) (.slice none 0 0)) k8B) | skip)
        | (go_at_call 18; refine (away_q _ (Qq2.keep (by first | exact kzB | exact kzB.alloc _)) (by first | exact Q8B | exact Q8B.keep ((Keep.refl _).alloc _)) HQ.out.1 HQ.out.2 hMb.out).mono ?_; rintro e w9B ⟨x9B, y9B, z9B, rfl, Q9B, k9B⟩; obtain ⟨s9B, a9B, l9B, c9B, b9B, m9B, f9B, rfl, rfl, rfl⟩ := Q9B.shape; have kz9B : Keep w12 w9B := (by first | exact kzB.trans k9B | exact (kzB.alloc _).trans k9B); have t0B := Keep.cell kz9B p0B; have t1B := Keep.cell kz9B p1B; have t2B := Keep.cell kz9B p2B; first | (have bz9B := bzB.keep k9B; obtain ⟨zz0B, zz1B, zz2B⟩ := bz9B.cells; have ff0B := bz9B.free 0; have ff1B := bz9B.free 1; have ff2B := bz9B.free 2) | (have bz9B := (Box.new w8B (.bool false) (.slice none 0 0) (.slice none 0 0)).keep k9B; obtain ⟨zz0B, zz1B, zz2B⟩ := bz9B.cells; have ff0B := bz9B.free 0; have ff1B := bz9B.free 1; have ff2B := bz9B.free 2) | (obtain ⟨w10B, hw10B, k10B, B10B⟩ := box_named w9B (.bool s9B) (.slice a9B l9B c9B) (.slice b9B m9B f9B); have u0B := Keep.cell k10B t0B; have u1B := Keep.cell k10B t1B; have u2B := Keep.cell k10B t2B)))
      all_goals go_simp
      all_goals go_wp2_with fail
      all_goals go_meet
      all_goals first
        | exact ⟨rfl, w9B.heap.size, s9B, a9B, l9B, c9B, b9B, m9B, f9B, rfl, Keep.le kz9B, B10B, Q9B.keep k10B, kz9B.trans k10B⟩
        | exact ⟨rfl, w8B.heap.size, s9B, a9B, l9B, c9B, b9B, m9B, f9B, rfl, Keep.le kzB, bz9B.set _ _ _, Q9B.box bz9B _ _ _, ((kz9B.setCell (Keep.le kzB) _).setCell (Keep.le kzB) _).setCell (Keep.le kzB) _⟩
        | exact ⟨rfl, w12.heap.size, s9B, a9B, l9B, c9B, b9B, m9B, f9B, rfl, Nat.le_refl _, bz9B.set _ _ _, Q9B.box bz9B _ _ _, ((kz9B.setCell (Nat.le_refl _) _).setCell (Nat.le_refl _) _).setCell (Nat.le_refl _) _⟩
    case rest =>
      obtain ⟨rfl, B2, t2, a2, l2, c2, b2', m2, f2, rfl, hBw2, Bq3, Qq3, kq3⟩ := hcut
      rw [HA.out] at Qq3
      have KD : Hid (Keep w wc) := K12.out.trans kq3
      have hhB : h < B2 := Nat.lt_of_lt_of_le hhl hBw2
      have ne1 : ¬ h = B2 := Nat.ne_of_lt hhB
      have ne2 : ¬ B2 = h := fun q => ne1 q.symm
      have Bh := B12.keep kq3
      have Qh2 := Qh.keep kq3
      obtain ⟨e0, e1, e2⟩ := Bq3.cells
      have g0 := Bq3.free 0
      obtain ⟨i0, i1, i2⟩ := Bh.cells
      have QA : Qt (wc.setCell ⟨B2, 0, none⟩ (.bool false)) (.bool false) (.slice a2 l2 c2) (.slice b2' m2 f2) false (RN A qd) (RD A qd) := (Qq3.box1 Bq3 (.bool false)).pos
      have QH : Qt (wc.setCell ⟨B2, 0, none⟩ (.bool false)) (.bool s11) (.slice a11 l11 c11) (.slice b11 m11 f11) false 1 2 := Qh2.box1 Bq3 (.bool false)
      have hRD : RD A qd ≠ 0 := by have := RD_pos2 (N := A) HQ.out.2.1; omega
      have cO := Order_q _ QA QH hRD (by decide)
      rw [HC.out] at cO
      have KE : Hid (Keep w (wc.setCell ⟨B2, 0, none⟩ (.bool false))) := KD.out.setCell (Nat.le_trans (Keep.le K12.out) hBw2) _
      clear QA QH Qq3 Qh2 Bq3 Bh p0B p1B p2B Qq2 Bq2 Qh B12
      go_wp2_with fail
      refine cO.mono ?_
      rintro e w15 ⟨rfl, k15⟩
      have K15 : Hid (Keep w w15) := KE.out.trans k15
      clear k15 KE cO
      cases b1 <;> cases b2 <;> cases b3 <;> first
        | exact absurd HF.out (by decide)
        | (go_wp2_with fail; go_ret; exact ⟨by first | rfl | simp, K15.out⟩)
end Go.Proofs.YtbpfpldahmfjaaaGreatDoor.Li
