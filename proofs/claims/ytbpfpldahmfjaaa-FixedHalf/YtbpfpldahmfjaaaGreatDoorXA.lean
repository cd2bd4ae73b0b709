import Derived.Test.YtbpfpldahmfjaaaGreatDoorX8
set_option linter.unusedVariables false
set_option linter.unusedSimpArgs false
namespace Go.Proofs.YtbpfpldahmfjaaaGreatDoor.Li
open Go.RowKit Lb
set_option maxRecDepth 100000 in
set_option maxHeartbeats 2000000 in
theorem half_bad (v num den : Int) (w : World) (hB : Calls Tryz.prog 6 #[] w fun e w' => e = .returned (.bool true) ∧ Keep w w') (hv : -9223372036854775808 ≤ v ∧ v ≤ 9223372036854775807) (hnum : -9223372036854775808 ≤ num ∧ num ≤ 9223372036854775807) (hden : -9223372036854775808 ≤ den ∧ den ≤ 9223372036854775807) (h0 : den ≠ 0) (V E : Int) (hV : -9223372036854775808 ≤ V ∧ V ≤ 9223372036854775807)
    (hS1 : ∀ wx, Calls Tryz.prog 12 #[.int .i64 v, .int .i64 1, .int .i64 1] wx fun e w' => e = .returned (.tuple #[.int .i64 v, .int .i64 0]) ∧ Keep wx w')
    (hS2 : ∀ wx, Calls Tryz.prog 12 #[.int .i64 v, .int .i64 num, .int .i64 den] wx fun e w' => e = .returned (.tuple #[.int .i64 0, .int .i64 41]) ∧ Keep wx w')
    (N D : Nat) (hN : v.natAbs * num.natAbs = N) (hD : den.natAbs = D) (sv sn sd ps qs : Bool) (hsv : decide (v < 0) = sv) (hsn : decide (num < 0) = sn) (hsd : decide (den < 0) = sd) (hps : RS (sv != sn) N 1 = ps) (qn qd : Nat) (hqs : RS (ps != sd) N D = qs) (hqn : RN N D = qn) (hqd : RD N D = qd) (C1 C2 : Int) (hC1 : ordV (qs && !decide (qn = 0)) (false && !decide (18446744073709551615 = 0)) (qn * 2) (18446744073709551615 * qd) = C1) (hC2 : ordV (qs && !decide (qn = 0)) (true && !decide (18446744073709551617 = 0)) (qn * 2) (18446744073709551617 * qd) = C2) (b1 b2 : Bool) (hb1x : decide ((0 : Int) ≤ C1) = b1) (hb2x : decide (C2 < 0) = b2) (hfin : (b1 || b2) = true) :
    Calls Tryz.prog 5 #[.int .i64 v, .int .i64 num, .int .i64 den] w fun e w' => e = .returned (.bool true) ∧ Keep w w' := by
  have hd0 : (den == 0) = false := by simpa using h0
  have hvb : (v != v) = false := by simp
  have hDp : 0 < D := by omega
  have hDb : D ≤ 9223372036854775808 := by omega
  have hNb : N ≤ 85070591730234615865843651857942052864 := by rw [← hN]; exact prod_small (by omega) (by omega)
  have hb1 : v.natAbs * num.natAbs < 4294967296 ^ 8 := by rw [hN]; exact big8 (by omega)
  have hqnb : qn ≤ 85070591730234615865843651857942052864 := by rw [← hqn]; exact Nat.le_trans (RN_le2 _ _) hNb
  have hqdb : 0 < qd ∧ qd ≤ 9223372036854775808 := by rw [← hqd]; exact ⟨RD_pos2 hDp, Nat.le_trans (RD_le2 _ _) hDb⟩
  have hW1 := fun wx => whole_c v _ sv hv.1 hv.2 rfl hsv wx
  have hW2 := fun wx => whole_c num _ sn hnum.1 hnum.2 rfl hsn wx
  have hWd := fun wx => whole_c den D sd hden.1 hden.2 hD hsd wx
  have HB : Hid (N ≤ 85070591730234615865843651857942052864 ∧ 0 < D ∧ D ≤ 9223372036854775808) := ⟨hNb, hDp, hDb⟩
  have HQ : Hid (qn ≤ 85070591730234615865843651857942052864 ∧ 0 < qd ∧ qd ≤ 9223372036854775808) := ⟨hqnb, hqdb⟩
  have HB1 : Hid (v.natAbs * num.natAbs < 4294967296 ^ 8) := hb1
  have HN : Hid (v.natAbs * num.natAbs = N) := hN
  have HPS : Hid (RS (sv != sn) N 1 = ps) := hps
  have HQS : Hid (RS (ps != sd) N D = qs ∧ RN N D = qn ∧ RD N D = qd) := ⟨hqs, hqn, hqd⟩
  have hWt := fun wx => whole_c 9223372036854775807 9223372036854775807 false (by decide) (by decide) rfl (by decide) wx
  have hWl := fun wx => whole_c (-9223372036854775808) 9223372036854775808 true (by decide) (by decide) rfl (by decide) wx
  have HC1 : Hid (ordV (qs && !decide (qn = 0)) (false && !decide (18446744073709551615 = 0)) (qn * 2) (18446744073709551615 * qd) = C1) := hC1
  have HC2 : Hid (ordV (qs && !decide (qn = 0)) (true && !decide (18446744073709551617 = 0)) (qn * 2) (18446744073709551617 * qd) = C2) := hC2
  have HF : Hid ((b1 || b2) = true) := hfin
  clear hC1 hC2 hfin
  clear h0 hDp hDb hNb hb1 hqnb hqdb hN hps hqs hqn hqd hD hsv hsn hsd
  go_enter Tryz.func5, Tryz.ntmps5
  go_wp2_with fail
  refine hB.mono ?_
  rintro e w1 ⟨rfl, k1⟩
  go_wp2_with fail
  refine (hS1 _).mono ?_
  rintro e w2 ⟨rfl, k2⟩
  go_wp2_with fail
  refine (hS2 _).mono ?_
  rintro e w3 ⟨rfl, k3⟩
  have K3 : Hid (Keep w w3) := (k1.trans k2).trans k3
  clear k1 k2 k3 hS1 hS2 hB
  go_wp2_with fail
  refine (hW1 _).mono ?_
  rintro e w4 ⟨x4, y4, z4, rfl, Q4, k4⟩
  go_wp2_with fail
  refine (hW2 _).mono ?_
  rintro e w5 ⟨x5, y5, z5, rfl, Q5, k5⟩
  have Q4 := Q4.keep k5
  go_wp2_with fail
  have cT := Times_q w5 Q4 Q5 HB1.out (by decide)
  rw [HN.out, Nat.mul_one, RN_one, RD_one, show RE 1 = 0 from rfl, HPS.out] at cT
  refine cT.mono ?_
  rintro e w6 ⟨x6, y6, z6, rfl, Q6, k6⟩
  obtain ⟨s6, a6, l6, c6, b6, m6, f6, rfl, rfl, rfl⟩ := Q6.shape
  clear cT Q4 Q5 hW1 hW2 HB1 HN HPS
  obtain ⟨w7, hw7, k7, B7⟩ := box_named w6 (.bool s6) (.slice a6 l6 c6) (.slice b6 m6 f6)
  have K7 : Hid (Keep w w7) := (((K3.out.trans k4).trans k5).trans k6).trans k7
  have Q7 := Q6.keep k7
  obtain ⟨p0A, p1A, p2A⟩ := B7.cells
  clear k4 k5 k6 K3 Q6
  go_wp2_with fail
  obtain ⟨P, hP⟩ : ∃ P, w6.heap.size = P := ⟨_, rfl⟩
  rw [hP] at p0A p1A p2A B7
  rw [hP]
  clear hP hw7
  have hP7A : P < w7.heap.size := (Array.getElem?_eq_some_iff.1 B7).1
  have np7 : ¬ P = w7.heap.size := by omega
  have np7' : ¬ w7.heap.size = P := by omega
  have hE0 : True := trivial
  go_cut [12, 13] from 64 to 70 (fun sv se wx => se = .int .i64 0 ∧ QB w7 wx sv (RS (ps != sd) N D) (RN N D) (RD N D))
  case first =>
    go_region_held3 (fun w' => w'.cell? ⟨P, 0, none⟩ = some (Value.bool s6) ∧ w'.cell? ⟨P, 1, none⟩ = some (Value.slice a6 l6 c6) ∧ w'.cell? ⟨P, 2, none⟩ = some (Value.slice b6 m6 f6)) (go_keep) (first
      | (go_at_call 14; refine (hWd _).mono ?_; rintro e w8A ⟨x8A, y8A, z8A, rfl, Q8A, k8A⟩; obtain ⟨s8A, a8A, l8A, c8A, b8A, m8A, f8A, rfl, rfl, rfl⟩ := Q8A.shape; have kzA : Keep w7 w8A := (by first | exact ((Keep.refl w7).drew).trans k8A | exact (((Keep.refl w7).alloc _).drew).trans k8A); have q0A := Keep.cell kzA p0A; have q1A := Keep.cell kzA p1A; have q2A := Keep.cell kzA p2A; have hP8A : P < w8A.heap.size := Nat.lt_of_lt_of_le hP7A (Keep.le kzA); have np8A : ¬ P = w8A.heap.size := Nat.ne_of_lt hP8A; have np8'A : ¬ w8A.heap.size = P := fun h => np8A h.symm; first | (have bzA := Box.keep (w := (w7.alloc (Obj.cells #[.bool false, .slice none 0 0, .slice none 0 0] 37)).drew) (Box.new w7 (.bool false) (.slice none 0 0) (.slice none 0 0)) k8A) | skip)
      | (go_at_call 15; refine (by_q0 _ (Q7.keep (by first | exact kzA | exact kzA.alloc _)) (by first | exact Q8A | exact Q8A.keep ((Keep.refl _).alloc _)) HB.out.1 HB.out.2).mono ?_; rintro e w9A ⟨x9A, y9A, z9A, rfl, Q9A, k9A⟩; obtain ⟨s9A, a9A, l9A, c9A, b9A, m9A, f9A, rfl, rfl, rfl⟩ := Q9A.shape; have kz9A : Keep w7 w9A := (by first | exact kzA.trans k9A | exact (kzA.alloc _).trans k9A); have t0A := Keep.cell kz9A p0A; have t1A := Keep.cell kz9A p1A; have t2A := Keep.cell kz9A p2A; first | (have bz9A := bzA.keep k9A; obtain ⟨zz0A, zz1A, zz2A⟩ := bz9A.cells; have ff0A := bz9A.free 0; have ff1A := bz9A.free 1; have ff2A := bz9A.free 2) | (have bz9A := (Box.new w8A (.bool false) (.slice none 0 0) (.slice none 0 0)).keep k9A; obtain ⟨zz0A, zz1A, zz2A⟩ := bz9A.cells; have ff0A := bz9A.free 0; have ff1A := bz9A.free 1; have ff2A := bz9A.free 2) | (obtain ⟨w10A, hw10A, k10A, B10A⟩ := box_named w9A (.bool s9A) (.slice a9A l9A c9A) (.slice b9A m9A f9A); have u0A := Keep.cell k10A t0A; have u1A := Keep.cell k10A t1A; have u2A := Keep.cell k10A t2A)))
    all_goals go_simp
    all_goals go_wp2_with fail
    all_goals go_meet
    all_goals first
      | exact ⟨rfl, w9A.heap.size, s9A, a9A, l9A, c9A, b9A, m9A, f9A, rfl, Keep.le kz9A, B10A, Q9A.keep k10A, kz9A.trans k10A⟩
      | exact ⟨rfl, w8A.heap.size, s9A, a9A, l9A, c9A, b9A, m9A, f9A, rfl, Keep.le kzA, bz9A.set _ _ _, Q9A.box bz9A _ _ _, ((kz9A.setCell (Keep.le kzA) _).setCell (Keep.le kzA) _).setCell (Keep.le kzA) _⟩
      | exact ⟨rfl, w7.heap.size, s9A, a9A, l9A, c9A, b9A, m9A, f9A, rfl, Nat.le_refl _, bz9A.set _ _ _, Q9A.box bz9A _ _ _, ((kz9A.setCell (Nat.le_refl _) _).setCell (Nat.le_refl _) _).setCell (Nat.le_refl _) _⟩
  case rest =>
    obtain ⟨rfl, B, t, a, l, c, b, m, f, rfl, hBw, Bq, Qq, kq⟩ := hcut
    obtain ⟨wq, rfl⟩ : ∃ x, x = wc := ⟨_, rfl⟩
    clear p0A p1A p2A B7 Q7 hWd
    rw [HQS.out.1, HQS.out.2.1, HQS.out.2.2] at Qq
    have KC : Hid (Keep w wq) := K7.out.trans kq
    go_wp2_with fail
    obtain ⟨hc1, hc2⟩ := two_cells wq
    have k0 : Keep wq ((wq.alloc (Obj.cells #[.int .u32 1] 42)).alloc (Obj.cells #[.int .u32 2] 42)) := ((Keep.refl wq).alloc _).alloc _
    refine (Over_half _ wq.heap.size (wq.heap.size + 1) hc1 hc2).mono ?_
    rintro e w11 ⟨x11, y11, z11, rfl, Q11, k11⟩
    obtain ⟨s11, a11, l11, c11, b11, m11, f11, rfl, rfl, rfl⟩ := Q11.shape
    obtain ⟨w12, hw12, k12, B12⟩ := box_named w11 (.bool s11) (.slice a11 l11 c11) (.slice b11 m11 f11)
    have kc12 : Keep wq w12 := (k0.trans k11).trans k12
    have K12 : Hid (Keep w w12) := KC.out.trans kc12
    have Bq2 := Bq.keep kc12
    have Qq2 := Qq.keep kc12
    have Qh := Q11.keep k12
    clear hc1 hc2 k0 k11 k12 Bq Qq Q11 kq
    obtain ⟨h, hh⟩ : ∃ h, w11.heap.size = h := ⟨_, rfl⟩
    rw [hh] at B12
    go_wp2_with fail
    try rw [hh]
    clear hh hw12
    have hBl : B < w12.heap.size := (Array.getElem?_eq_some_iff.1 Bq2).1
    have hhl : h < w12.heap.size := (Array.getElem?_eq_some_iff.1 B12).1
    obtain ⟨p0T, p1T, p2T⟩ := B12.cells
    have hP7T : h < w12.heap.size := hhl
    have np7T : ¬ h = w12.heap.size := by omega
    have np7'T : ¬ w12.heap.size = h := by omega
    go_cut [16, 17] from 81 to 86 (fun sv se wx => se = .int .i64 0 ∧ QB w12 wx sv false 18446744073709551615 2)
    case first =>
      go_region_held3 (fun w' => w'.cell? ⟨h, 0, none⟩ = some (Value.bool s11) ∧ w'.cell? ⟨h, 1, none⟩ = some (Value.slice a11 l11 c11) ∧ w'.cell? ⟨h, 2, none⟩ = some (Value.slice b11 m11 f11)) (go_keep) (first
        | (go_at_call 14; refine (hWt _).mono ?_; rintro e w8T ⟨x8T, y8T, z8T, rfl, Q8T, k8T⟩; obtain ⟨s8T, a8T, l8T, c8T, b8T, m8T, f8T, rfl, rfl, rfl⟩ := Q8T.shape; have kzT : Keep w12 w8T := (by first | exact ((Keep.refl w12).drew).trans k8T | exact (((Keep.refl w12).alloc _).drew).trans k8T); have q0T := Keep.cell kzT p0T; have q1T := Keep.cell kzT p1T; have q2T := Keep.cell kzT p2T; have hP8T : h < w8T.heap.size := Nat.lt_of_lt_of_le hP7T (Keep.le kzT); have np8T : ¬ h = w8T.heap.size := Nat.ne_of_lt hP8T; have np8'T : ¬ w8T.heap.size = h := fun h => np8T h.symm; first | (have bzT := Box.keep (w := (w12.alloc (Obj.cells #[.bool false, .slice none 0 0, .slice none 0 0] 37)).drew) (Box.new w12 (.bool false) (.slice none 0 0) (.slice none 0 0)) k8T) | skip)
        | (go_at_call 17; refine (top_q _ (by first | exact Q8T | exact Q8T.keep ((Keep.refl _).alloc _)) (Qh.keep (by first | exact kzT | exact kzT.alloc _)) ).mono ?_; rintro e w9T ⟨x9T, y9T, z9T, rfl, Q9T, k9T⟩; obtain ⟨s9T, a9T, l9T, c9T, b9T, m9T, f9T, rfl, rfl, rfl⟩ := Q9T.shape; have kz9T : Keep w12 w9T := (by first | exact kzT.trans k9T | exact (kzT.alloc _).trans k9T); have t0T := Keep.cell kz9T p0T; have t1T := Keep.cell kz9T p1T; have t2T := Keep.cell kz9T p2T; first | (have bz9T := bzT.keep k9T; obtain ⟨zz0T, zz1T, zz2T⟩ := bz9T.cells; have ff0T := bz9T.free 0; have ff1T := bz9T.free 1; have ff2T := bz9T.free 2) | (have bz9T := (Box.new w8T (.bool false) (.slice none 0 0) (.slice none 0 0)).keep k9T; obtain ⟨zz0T, zz1T, zz2T⟩ := bz9T.cells; have ff0T := bz9T.free 0; have ff1T := bz9T.free 1; have ff2T := bz9T.free 2) | (obtain ⟨w10T, hw10T, k10T, B10T⟩ := box_named w9T (.bool s9T) (.slice a9T l9T c9T) (.slice b9T m9T f9T); have u0T := Keep.cell k10T t0T; have u1T := Keep.cell k10T t1T; have u2T := Keep.cell k10T t2T)))
      all_goals go_simp
      all_goals go_wp2_with fail
      all_goals go_meet
      all_goals first
        | exact ⟨rfl, w9T.heap.size, s9T, a9T, l9T, c9T, b9T, m9T, f9T, rfl, Keep.le kz9T, B10T, Q9T.keep k10T, kz9T.trans k10T⟩
        | exact ⟨rfl, w8T.heap.size, s9T, a9T, l9T, c9T, b9T, m9T, f9T, rfl, Keep.le kzT, bz9T.set _ _ _, Q9T.box bz9T _ _ _, ((kz9T.setCell (Keep.le kzT) _).setCell (Keep.le kzT) _).setCell (Keep.le kzT) _⟩
        | exact ⟨rfl, w12.heap.size, s9T, a9T, l9T, c9T, b9T, m9T, f9T, rfl, Nat.le_refl _, bz9T.set _ _ _, Q9T.box bz9T _ _ _, ((kz9T.setCell (Nat.le_refl _) _).setCell (Nat.le_refl _) _).setCell (Nat.le_refl _) _⟩
    case rest =>
      obtain ⟨rfl, B2, t2, a2, l2, c2, b2', m2, f2, rfl, hBw2, Bt, Qt1, kt⟩ := hcut
      obtain ⟨wp, rfl⟩ : ∃ x, x = wc := ⟨_, rfl⟩
      have KP : Hid (Keep w wp) := K12.out.trans kt
      have Bh := B12.keep kt
      have Qh2 := Qh.keep kt
      have Bq3 := Bq2.keep kt
      have Qq3 := Qq2.keep kt
      have hhl2 : h < wp.heap.size := (Array.getElem?_eq_some_iff.1 Bh).1
      clear p0T p1T p2T B12 Qh Bq2 Qq2
      go_wp2_with fail
      obtain ⟨p0L, p1L, p2L⟩ := Bh.cells
      have hP7L : h < wp.heap.size := hhl2
      have np7L : ¬ h = wp.heap.size := by omega
      have np7'L : ¬ wp.heap.size = h := by omega
      go_cut [18, 19] from 87 to 92 (fun sv se wx => se = .int .i64 0 ∧ QB wp wx sv true 18446744073709551617 2)
      case first =>
        go_region_held3 (fun w' => w'.cell? ⟨h, 0, none⟩ = some (Value.bool s11) ∧ w'.cell? ⟨h, 1, none⟩ = some (Value.slice a11 l11 c11) ∧ w'.cell? ⟨h, 2, none⟩ = some (Value.slice b11 m11 f11)) (go_keep) (first
          | (go_at_call 14; refine (hWl _).mono ?_; rintro e w8L ⟨x8L, y8L, z8L, rfl, Q8L, k8L⟩; obtain ⟨s8L, a8L, l8L, c8L, b8L, m8L, f8L, rfl, rfl, rfl⟩ := Q8L.shape; have kzL : Keep wp w8L := (by first | exact ((Keep.refl wp).drew).trans k8L | exact (((Keep.refl wp).alloc _).drew).trans k8L); have q0L := Keep.cell kzL p0L; have q1L := Keep.cell kzL p1L; have q2L := Keep.cell kzL p2L; have hP8L : h < w8L.heap.size := Nat.lt_of_lt_of_le hP7L (Keep.le kzL); have np8L : ¬ h = w8L.heap.size := Nat.ne_of_lt hP8L; have np8'L : ¬ w8L.heap.size = h := fun h => np8L h.symm; first | (have bzL := Box.keep (w := (wp.alloc (Obj.cells #[.bool false, .slice none 0 0, .slice none 0 0] 37)).drew) (Box.new wp (.bool false) (.slice none 0 0) (.slice none 0 0)) k8L) | skip)
          | (go_at_call 18; refine (low_q _ (by first | exact Q8L | exact Q8L.keep ((Keep.refl _).alloc _)) (Qh2.keep (by first | exact kzL | exact kzL.alloc _)) ).mono ?_; rintro e w9L ⟨x9L, y9L, z9L, rfl, Q9L, k9L⟩; obtain ⟨s9L, a9L, l9L, c9L, b9L, m9L, f9L, rfl, rfl, rfl⟩ := Q9L.shape; have kz9L : Keep wp w9L := (by first | exact kzL.trans k9L | exact (kzL.alloc _).trans k9L); have t0L := Keep.cell kz9L p0L; have t1L := Keep.cell kz9L p1L; have t2L := Keep.cell kz9L p2L; first | (have bz9L := bzL.keep k9L; obtain ⟨zz0L, zz1L, zz2L⟩ := bz9L.cells; have ff0L := bz9L.free 0; have ff1L := bz9L.free 1; have ff2L := bz9L.free 2) | (have bz9L := (Box.new w8L (.bool false) (.slice none 0 0) (.slice none 0 0)).keep k9L; obtain ⟨zz0L, zz1L, zz2L⟩ := bz9L.cells; have ff0L := bz9L.free 0; have ff1L := bz9L.free 1; have ff2L := bz9L.free 2) | (obtain ⟨w10L, hw10L, k10L, B10L⟩ := box_named w9L (.bool s9L) (.slice a9L l9L c9L) (.slice b9L m9L f9L); have u0L := Keep.cell k10L t0L; have u1L := Keep.cell k10L t1L; have u2L := Keep.cell k10L t2L)))
        all_goals go_simp
        all_goals go_wp2_with fail
        all_goals go_meet
        all_goals first
          | exact ⟨rfl, w9L.heap.size, s9L, a9L, l9L, c9L, b9L, m9L, f9L, rfl, Keep.le kz9L, B10L, Q9L.keep k10L, kz9L.trans k10L⟩
          | exact ⟨rfl, w8L.heap.size, s9L, a9L, l9L, c9L, b9L, m9L, f9L, rfl, Keep.le kzL, bz9L.set _ _ _, Q9L.box bz9L _ _ _, ((kz9L.setCell (Keep.le kzL) _).setCell (Keep.le kzL) _).setCell (Keep.le kzL) _⟩
          | exact ⟨rfl, wp.heap.size, s9L, a9L, l9L, c9L, b9L, m9L, f9L, rfl, Nat.le_refl _, bz9L.set _ _ _, Q9L.box bz9L _ _ _, ((kz9L.setCell (Nat.le_refl _) _).setCell (Nat.le_refl _) _).setCell (Nat.le_refl _) _⟩
      case rest =>
        obtain ⟨rfl, B3, t3, a3, l3, c3, b3', m3, f3, rfl, hBw3, Bl, Ql, kl⟩ := hcut
        have KL : Hid (Keep w wc) := KP.out.trans kl
        have Bt2 := Bt.keep kl
        have Qt2 := Qt1.keep kl
        have Bq4 := Bq3.keep kl
        have Qq4 := Qq3.keep kl
        obtain ⟨e0, e1, e2⟩ := Bq4.cells
        obtain ⟨i0, i1, i2⟩ := Bt2.cells
        obtain ⟨j0, j1, j2⟩ := Bl.cells
        have hq0 : qd ≠ 0 := by have := HQ.out.2.1; omega
        have cO1 := fun wx (k : Keep wc wx) => Order_q wx (Qq4.keep k) (Qt2.keep k) hq0 (by decide)
        have cO2 := fun wx (k : Keep wc wx) => Order_q wx (Qq4.keep k) (Ql.keep k) hq0 (by decide)
        rw [HC1.out] at cO1
        rw [HC2.out] at cO2
        clear p0L p1L p2L Bt Qt1 Bq3 Qq3 Bh Qh2
        go_wp2_with fail
        refine (cO1 _ (Keep.refl _)).mono ?_
        rintro e w15 ⟨rfl, k15⟩
        have e0 := Keep.cell k15 e0
        have e1 := Keep.cell k15 e1
        have e2 := Keep.cell k15 e2
        have j0 := Keep.cell k15 j0
        have j1 := Keep.cell k15 j1
        have j2 := Keep.cell k15 j2
        go_wp2_with fail
        refine (cO2 _ k15).mono ?_
        rintro e w16 ⟨rfl, k16⟩
        have K16 : Hid (Keep w w16) := (KL.out.trans k15).trans k16
        clear k15 k16 cO1 cO2
        cases b1 <;> cases b2 <;> first
          | exact absurd HF.out (by decide)
          | (go_wp2_with fail; go_ret; exact ⟨by first | rfl | simp, K16.out⟩)
end Go.Proofs.YtbpfpldahmfjaaaGreatDoor.Li
