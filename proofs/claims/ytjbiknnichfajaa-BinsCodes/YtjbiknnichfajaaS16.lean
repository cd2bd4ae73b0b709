import Derived.Test.YtjbiknnichfajaaS15
import Derived.Deep.CutRange
import Derived.Deep.CutBlock
set_option linter.unusedVariables false
set_option linter.unusedSimpArgs false
namespace Go.Proofs.Ytjbiknnichfajaa
open Go.RowKit Go.Shelf
attribute [local go_sem high] run_eqlC run_neqC run_guardC
theorem fits_any (a a2 : Option Addr) (c c2 : Nat) (V : List (List Nat)) (T : List (List Int)) (f : Nat) (k : Cd) (w : World) (h : Bn w a a2 V T) (hf : f < V.length) (hf2 : f < T.length) :
    Calls Try.prog 19 #[BV a V.length c a2 T.length c2, .int .i64 f, CV k] w fun e w' => e = .returned (.bool (fitB (V.getD f []).length (T.getD f []).length k)) ∧ Keep w w' := by
  obtain ⟨b, q, lo⟩ := k
  cases lo
  · exact fits_num a a2 c c2 V T f b q w h hf hf2 _ rfl
  · exact fits_lost a a2 c c2 V.length T.length f b q w _ rfl
set_option maxRecDepth 100000 in
set_option maxHeartbeats 2000000 in
theorem rPoint_wrong (a a2 : Option Addr) (c c2 : Nat) (V : List (List Nat)) (T : List (List Int)) (f : Int) (b q : Int) (lo : Bool) (w : World) (h : Bn w a a2 V T) (hr : rightB V T = false) :
    Calls Try.prog 7 #[BV a V.length c a2 T.length c2, .int .i64 f, .agg #[.int .i64 b, .int .i64 q, .bool lo]] w fun e w' => e = .returned (.tuple #[.int .u64 0, .int .i64 200]) ∧ Keep w w' := by
  obtain ⟨w1, hw1, k1, t1, s1⟩ := boxed w #[.slice a V.length c, .slice a2 T.length c2] 25
  obtain ⟨w2, hw2, k2, t2, s2⟩ := boxed w1 #[.int .i64 b, .int .i64 q, .bool lo] 28
  rw [s1] at t2
  have k12 := k1.trans k2
  have q1 := k2.at t1
  obtain ⟨x0, x1, f0, f1⟩ := cells2 q1
  obtain ⟨m0, m1, m2, n0, n1, n2⟩ := cells3 t2
  have hB := h.keep k12
  have hRt := rRight_any a a2 c c2 V T w2 hB
  rw [hr] at hRt
  clear s2 hr
  go_enter Try.func7, Try.ntmps7
  go_wp2_with (first
    | rw [hw1]
    | rw [hw2]
    | (go_at_call 9; refine hRt.mono ?_; rintro e w3 ⟨rfl, k3⟩))
  go_ret2
  exact ⟨rfl, k12.trans k3⟩
set_option maxRecDepth 100000 in
set_option maxHeartbeats 2000000 in
theorem rPoint_far (a a2 : Option Addr) (c c2 : Nat) (V : List (List Nat)) (T : List (List Int)) (f : Int) (b q : Int) (lo : Bool) (w : World) (h : Bn w a a2 V T) (hr : rightB V T = true) (hf : ¬ (0 ≤ f ∧ f < V.length)) :
    Calls Try.prog 7 #[BV a V.length c a2 T.length c2, .int .i64 f, .agg #[.int .i64 b, .int .i64 q, .bool lo]] w fun e w' => e = .returned (.tuple #[.int .u64 0, .int .i64 2]) ∧ Keep w w' := by
  obtain ⟨w1, hw1, k1, t1, s1⟩ := boxed w #[.slice a V.length c, .slice a2 T.length c2] 25
  obtain ⟨w2, hw2, k2, t2, s2⟩ := boxed w1 #[.int .i64 b, .int .i64 q, .bool lo] 28
  rw [s1] at t2
  have k12 := k1.trans k2
  have q1 := k2.at t1
  obtain ⟨x0, x1, f0, f1⟩ := cells2 q1
  obtain ⟨m0, m1, m2, n0, n1, n2⟩ := cells3 t2
  have hB := h.keep k12
  have hRt := rRight_any a a2 c c2 V T w2 hB
  rw [hr] at hRt
  clear s2 hr
  by_cases h0 : 0 ≤ f
  · have e0 : decide (f < 0) = false := by rw [decide_eq_false_iff_not]; omega
    have e1 : decide ((V.length : Int) ≤ f) = true := by rw [decide_eq_true_eq]; omega
    clear hf
    go_enter Try.func7, Try.ntmps7
    go_wp2_with (first
      | rw [hw1]
      | rw [hw2]
      | (go_at_call 9; refine hRt.mono ?_; rintro e w3 ⟨rfl, k3⟩; have y0 := k3.cell x0; have y1 := k3.cell x1))
    go_ret2
    exact ⟨rfl, k12.trans k3⟩
  · have e0 : decide (f < 0) = true := by rw [decide_eq_true_eq]; omega
    clear hf
    go_enter Try.func7, Try.ntmps7
    go_wp2_with (first
      | rw [hw1]
      | rw [hw2]
      | (go_at_call 9; refine hRt.mono ?_; rintro e w3 ⟨rfl, k3⟩; have y0 := k3.cell x0; have y1 := k3.cell x1))
    go_ret2
    exact ⟨rfl, k12.trans k3⟩
set_option maxRecDepth 100000 in
set_option maxHeartbeats 2000000 in
theorem rPoint_unfit (a a2 : Option Addr) (c c2 : Nat) (V : List (List Nat)) (T : List (List Int)) (f : Nat) (b q : Int) (lo : Bool) (w : World) (h : Bn w a a2 V T) (hr : rightB V T = true) (hf : f < V.length) (hF : fitB (V.getD f []).length (T.getD f []).length (b, q, lo) = false) :
    Calls Try.prog 7 #[BV a V.length c a2 T.length c2, .int .i64 f, .agg #[.int .i64 b, .int .i64 q, .bool lo]] w fun e w' => e = .returned (.tuple #[.int .u64 0, .int .i64 200]) ∧ Keep w w' := by
  obtain ⟨w1, hw1, k1, t1, s1⟩ := boxed w #[.slice a V.length c, .slice a2 T.length c2] 25
  obtain ⟨w2, hw2, k2, t2, s2⟩ := boxed w1 #[.int .i64 b, .int .i64 q, .bool lo] 28
  rw [s1] at t2
  have k12 := k1.trans k2
  have q1 := k2.at t1
  obtain ⟨x0, x1, f0, f1⟩ := cells2 q1
  obtain ⟨m0, m1, m2, n0, n1, n2⟩ := cells3 t2
  have hB := h.keep k12
  have hRt := rRight_any a a2 c c2 V T w2 hB
  rw [hr] at hRt
  obtain ⟨g1, -, g3⟩ := right_parts hr
  have hft : f < T.length := by omega
  have hfc : (f : Int) < (V.length : Int) := by omega
  have hft2 : (f : Int) < (T.length : Int) := by omega
  have e0 : decide ((f : Int) < 0) = false := by rw [decide_eq_false_iff_not]; omega
  have e1 : decide ((V.length : Int) ≤ (f : Int)) = false := by rw [decide_eq_false_iff_not]; omega
  have hFt := fun wx (kx : Keep w2 wx) => fits_any a a2 c c2 V T f (b, q, lo) wx (hB.keep kx) hf hft
  rw [hF] at hFt
  clear s2 hr g1 g3 h hF
  go_enter Try.func7, Try.ntmps7
  go_wp2_with (first
    | rw [hw1]
    | rw [hw2]
    | (go_at_call 9; refine hRt.mono ?_; rintro e w3 ⟨rfl, k3⟩; have y0 := k3.cell x0; have y1 := k3.cell x1; have y2 := k3.cell m0; have y3 := k3.cell m1; have y4 := k3.cell m2)
    | (go_at_call 19; refine (hFt _ k3).mono ?_; rintro e w4 ⟨rfl, k4⟩; have z0 := k4.cell y0; have z1 := k4.cell y1; have z2 := k4.cell y2; have z3 := k4.cell y3; have z4 := k4.cell y4))
  go_ret2
  exact ⟨rfl, k12.trans (k3.trans k4)⟩
set_option maxRecDepth 100000 in
set_option maxHeartbeats 2000000 in
theorem rPoint_lost (a a2 : Option Addr) (c c2 : Nat) (V : List (List Nat)) (T : List (List Int)) (f : Nat) (b q : Int) (w : World) (h : Bn w a a2 V T) (hr : rightB V T = true) (hf : f < V.length) (hF : fitB (V.getD f []).length (T.getD f []).length (b, q, true) = true) :
    Calls Try.prog 7 #[BV a V.length c a2 T.length c2, .int .i64 f, .agg #[.int .i64 b, .int .i64 q, .bool true]] w fun e w' => e = .returned (.tuple #[.int .u64 9218868437227405313, .int .i64 0]) ∧ Keep w w' := by
  obtain ⟨w1, hw1, k1, t1, s1⟩ := boxed w #[.slice a V.length c, .slice a2 T.length c2] 25
  obtain ⟨w2, hw2, k2, t2, s2⟩ := boxed w1 #[.int .i64 b, .int .i64 q, .bool true] 28
  rw [s1] at t2
  have k12 := k1.trans k2
  have q1 := k2.at t1
  obtain ⟨x0, x1, f0, f1⟩ := cells2 q1
  obtain ⟨m0, m1, m2, n0, n1, n2⟩ := cells3 t2
  have hB := h.keep k12
  have hRt := rRight_any a a2 c c2 V T w2 hB
  rw [hr] at hRt
  obtain ⟨g1, -, g3⟩ := right_parts hr
  have hft : f < T.length := by omega
  have hfc : (f : Int) < (V.length : Int) := by omega
  have hft2 : (f : Int) < (T.length : Int) := by omega
  have e0 : decide ((f : Int) < 0) = false := by rw [decide_eq_false_iff_not]; omega
  have e1 : decide ((V.length : Int) ≤ (f : Int)) = false := by rw [decide_eq_false_iff_not]; omega
  have hFt := fun wx (kx : Keep w2 wx) => fits_any a a2 c c2 V T f (b, q, true) wx (hB.keep kx) hf hft
  rw [hF] at hFt
  clear s2 hr g1 g3 h hF
  go_enter Try.func7, Try.ntmps7
  go_wp2_with (first
    | rw [hw1]
    | rw [hw2]
    | (go_at_call 9; refine hRt.mono ?_; rintro e w3 ⟨rfl, k3⟩; have y0 := k3.cell x0; have y1 := k3.cell x1; have y2 := k3.cell m0; have y3 := k3.cell m1; have y4 := k3.cell m2)
    | (go_at_call 19; refine (hFt _ k3).mono ?_; rintro e w4 ⟨rfl, k4⟩; have z0 := k4.cell y0; have z1 := k4.cell y1; have z2 := k4.cell y2; have z3 := k4.cell y3; have z4 := k4.cell y4))
  go_ret2
  exact ⟨rfl, k12.trans (k3.trans k4)⟩
set_option maxRecDepth 100000 in
set_option maxHeartbeats 2000000 in
theorem rPoint_ok (a a2 : Option Addr) (c c2 : Nat) (V : List (List Nat)) (T : List (List Int)) (f : Nat) (b q : Int) (w : World) (h : Bn w a a2 V T) (hr : rightB V T = true) (hf : f < V.length) (hF : fitB (V.getD f []).length (T.getD f []).length (b, q, false) = true) :
    Calls Try.prog 7 #[BV a V.length c a2 T.length c2, .int .i64 f, .agg #[.int .i64 b, .int .i64 q, .bool false]] w fun e w' => e = .returned (.tuple #[.int .u64 ((ptO V T f (b, q, false) 9218868437227405313).getD 0 : Nat), .int .i64 (if (ptO V T f (b, q, false) 9218868437227405313).isSome = true then 0 else 200)]) ∧ Keep w w' := by
  obtain ⟨w1, hw1, k1, t1, s1⟩ := boxed w #[.slice a V.length c, .slice a2 T.length c2] 25
  obtain ⟨w2, hw2, k2, t2, s2⟩ := boxed w1 #[.int .i64 b, .int .i64 q, .bool false] 28
  rw [s1] at t2
  have k12 := k1.trans k2
  have q1 := k2.at t1
  obtain ⟨x0, x1, f0, f1⟩ := cells2 q1
  obtain ⟨m0, m1, m2, n0, n1, n2⟩ := cells3 t2
  have hB := h.keep k12
  have hRt := rRight_any a a2 c c2 V T w2 hB
  rw [hr] at hRt
  obtain ⟨g1, -, g3⟩ := right_parts hr
  have hft : f < T.length := by omega
  have hfc : (f : Int) < (V.length : Int) := by omega
  have hft2 : (f : Int) < (T.length : Int) := by omega
  have e0 : decide ((f : Int) < 0) = false := by rw [decide_eq_false_iff_not]; omega
  have e1 : decide ((V.length : Int) ≤ (f : Int)) = false := by rw [decide_eq_false_iff_not]; omega
  have hFt := fun wx (kx : Keep w2 wx) => fits_any a a2 c c2 V T f (b, q, false) wx (hB.keep kx) hf hft
  rw [hF] at hFt
  have hR := g3 f hf
  have hBV := hB.rv f hf
  have hBT := hB.rt f hft
  have hF2 : decide (0 ≤ b ∧ b ≤ (V.getD f []).length ∧ -1 ≤ q ∧ q < (T.getD f []).length) = true := hF
  rw [decide_eq_true_eq] at hF2
  have hLT := fun (hw : W64 (V.getD f [])) v hv => pts_lt (N := 9218868437227405313) (by omega) hw hR hF v hv
  have hsh := pts_short 9218868437227405313 (V.getD f []) (T.getD f []) (b, q, false)
  have hcode := fun wz v (kz : Keep w2 wz) (hv : v < 18446744073709551616) => rcode_any a a2 c c2 V T f v wz (hB.keep kz) hf hft hR hv
  have HPO : Hid (ptO V T f (b, q, false) 9218868437227405313 = fnd (kys (V.getD f [])) (kts (T.getD f [])) (b, q, false) (ptsL 9218868437227405313 (V.getD f []) (T.getD f []) (b, q, false))) := rfl
  generalize ptO V T f (b, q, false) 9218868437227405313 = PO at *
  obtain ⟨XV, hXV⟩ : ∃ XV : Nat, PO.getD 0 = XV := ⟨_, rfl⟩
  obtain ⟨XE, hXE⟩ : ∃ XE : Int, (if PO.isSome = true then (0 : Int) else 200) = XE := ⟨_, rfl⟩
  rw [hXV, hXE]
  replace hXV : Hid _ := hXV
  replace hXE : Hid _ := hXE
  obtain ⟨bv, ov, xa, xc, rfl, p1, p2, p3, p4⟩ := hBV
  obtain ⟨bt, ot, ya, yc, rfl, r1, r2, r3⟩ := hBT
  have hLT2 := hLT p4
  replace hLT2 : Hid _ := hLT2
  clear s2 hr g1 g3 h hF hLT hB hR
  generalize (V.getD f []) = l at *
  generalize (T.getD f []) = t at *
  obtain ⟨L, hL⟩ : ∃ L, ptsL 9218868437227405313 l t (b, q, false) = L := ⟨_, rfl⟩
  rw [hL] at hsh HPO hLT2
  replace hL : Hid _ := hL
  replace hcode : Hid _ := hcode
  replace hF2 : Hid _ := hF2
  go_enter Try.func7, Try.ntmps7
  go_upto_block 0 with (first
    | rw [hw1]
    | rw [hw2]
    | (go_at_call 9; refine hRt.mono ?_; rintro e w3 ⟨rfl, k3⟩; have y0 := k3.cell x0; have y1 := k3.cell x1; have y2 := k3.cell m0; have y3 := k3.cell m1; have y4 := k3.cell m2)
    | (go_at_call 19; refine (hFt _ k3).mono ?_; rintro e w4 ⟨rfl, k4⟩; have z0 := k4.cell y0; have z1 := k4.cell y1; have z2 := k4.cell y2; have z3 := k4.cell y3; have z4 := k4.cell y4; have pz := (k3.trans k4).cell p1; have rz := (k3.trans k4).cell r1))
  go_cut [9] from 11 to 113 (fun s9 wx => ∃ ta tc, s9 = .slice ta L.length tc ∧ L.length ≤ tc ∧ RdU wx ta L ∧ Keep w4 wx)
  case first =>
    have K4 := k3.trans k4
    have rl4 := p2.keep K4
    have rt4 := r2.keep K4
    clear hcode HPO hXV hXE hLT2 hRt hFt hw1 hw2 y0 y1 y2 y3 y4 p1 p2 r1 r2
    by_cases hq : 0 ≤ q
    · obtain ⟨q', rfl⟩ : ∃ q' : Nat, q = q' := ⟨q.toNat, by omega⟩
      have hqt : q' < t.length := by have := hF2.out; omega
      have hqc : (q' : Int) < (t.length : Int) := by omega
      obtain ⟨b3, o3, rfl, cv⟩ := rt4 q' hqt
      have HLL : Hid (L = [floatOfInt FloatKind.f64 (t.getD q' 0)]) := by show _ = _; rw [← hL.out]; unfold ptsL; rw [if_neg (by simp), if_pos hq]; rfl
      generalize t.getD q' 0 = v at *
      have hb := f64bits (floatOfInt FloatKind.f64 v)
      go_wp2_with fail
      go_region_law (refine step_appG Try.underlying54 i36 rfl (by decide) (by decide) w4.heap.size rfl _ _ rfl 0 [] (VU [floatOfInt FloatKind.f64 v]) _ (own_nil 36 1 w4.heap.size _) ((Keep.refl w4).drew.alloc (Obj.cells #[.int .u64 ((floatOfInt FloatKind.f64 v : Nat) : Int)] 36)).le (by omega) ⟨w4.heap.size, 0, none⟩ 1 rfl (newsU w4.drew (floatOfInt FloatKind.f64 v)) (VU_one _) rfl rfl ?_; intro v5 w5 o5 g5)
      all_goals
        have k5 := keep_grown ((Keep.refl w4).drew.alloc (Obj.cells #[.int .u64 ((floatOfInt FloatKind.f64 v : Nat) : Int)] 36)) (own_nil 36 1 w4.heap.size _) g5
        have ow : w5.ownsRow w4.heap.size 36 1 v5 L.length (VU L) := by rw [HLL.out]; exact o5
        obtain ⟨a', c', hv5, h1, h2⟩ := own_rdu ow
        clear o5 g5 ow HLL
        subst hv5
        go_simp
        go_wp2_with fail
        go_meet
        exact ⟨a', c', rfl, h1, h2, k5⟩
    · obtain rfl : q = -1 := by have := hF2.out; omega
      by_cases hl0 : l.length = 0
      · have HLL : Hid (L = [0]) := by show _ = _; rw [← hL.out]; unfold ptsL; rw [if_neg (by simp), if_neg hq, if_pos hl0]
        have e9 : ((l.length : Int) == 0) = true := by rw [beq_iff_eq]; omega
        clear hl0
        go_wp2_with (at_builtin; refine wpList_appG Try.underlying54 i36 rfl (by decide) (by decide) w4.heap.size _ rfl _ _ rfl 0 [] (VU [0]) _ rfl (own_nil 36 1 w4.heap.size _) ((Keep.refl w4).alloc (Obj.cells #[.int .u64 ((0 : Nat) : Int)] 36)).le ⟨w4.heap.size, 0, none⟩ 1 rfl rfl (newsU w4 0) (VU_one _) (by omega) ?_; intro v5 w5 o5 g5; have k5 := keep_grown ((Keep.refl w4).alloc (Obj.cells #[.int .u64 ((0 : Nat) : Int)] 36)) (own_nil 36 1 w4.heap.size _) g5)
        have ow : w5.ownsRow w4.heap.size 36 1 v5 L.length (VU L) := by rw [HLL.out]; exact o5
        obtain ⟨a', c', hv5, h1, h2⟩ := own_rdu ow
        clear o5 g5 ow HLL
        subst hv5
        go_meet
        exact ⟨a', c', rfl, h1, h2, k5⟩
      · obtain ⟨p, rfl⟩ : ∃ p : Nat, b = p := ⟨b.toNat, by have := hF2.out; omega⟩
        have hpl : p ≤ l.length := by have := hF2.out; omega
        have e9 : ((l.length : Int) == 0) = false := by rw [beq_eq_false_iff_ne]; omega
        have hLT : Hid (L = tryF 9218868437227405313 l p) := by show _ = _; rw [← hL.out]; unfold ptsL; rw [if_neg (by simp), if_neg hq, if_neg hl0]; rfl
        clear hL hq
        by_cases hp : p < l.length
        · cases hpv : (pvE (key (l.getD p 0)) == 0)
          · by_cases h0 : 0 < p
            · cases hnx : (nxE (key (l.getD (p - 1) 0)) == 0)
              · have HLL : Hid (L = [l.getD p 0]) := by
                  show _ = _
                  rw [hLT.out]; unfold tryF
                  rw [if_pos hp, if_neg (beq_eq_false_iff_ne.1 hpv)]
                  rw [if_pos h0, if_neg (beq_eq_false_iff_ne.1 hnx)]
                  rfl
                clear hLT
                have hpc : (p : Int) < (l.length : Int) := by omega
                have hlss : decide ((p : Int) < (l.length : Int)) = true := decide_eq_true hpc
                obtain ⟨b3, o3, e3, cv⟩ := rl4 p hp
                have hb := f64bits (l.getD p 0)
                have hPv := fun wx => rStep_down (l.getD p 0) wx (p4 p hp)
                generalize l.getD p 0 = y at *
                generalize pvE (key y) = pe at *
                generalize pvB 9218868437227405313 (key y) = pv at *
                have hgt : decide ((0 : Int) < (p : Int)) = true := decide_eq_true (by omega)
                obtain ⟨r, hr⟩ : ∃ r, p = r + 1 := ⟨p - 1, by omega⟩
                have hri : (p : Int) - 1 = (r : Int) := by omega
                rw [show p - 1 = r by omega] at *
                have hrl2 : r < l.length := by omega
                have hrc : (r : Int) < (l.length : Int) := by omega
                obtain ⟨b4, o4, e4, cz⟩ := rl4 r hrl2
                have hb2 := f64bits (l.getD r 0)
                have hNx := fun wx => rStep_up (l.getD r 0) wx (p4 r hrl2)
                generalize l.getD r 0 = z at *
                generalize nxE (key z) = ne at *
                generalize nxB 9218868437227405313 (key z) = nx at *
                clear hr
                subst e3
                simp only [Option.some.injEq, Addr.mk.injEq, and_true] at e4
                obtain ⟨rfl, rfl⟩ := e4
                clear rl4 rt4 p4 r3 hF2 hpl
                go_wp2_with (first
                  | (go_at_call 20; have _t := done1; refine (hNx _).mono ?_; rintro e wz ⟨rfl, hz⟩; rw [hz]; clear hz)
                  | (go_at_call 20; refine (hPv _).mono ?_; rintro e wz ⟨rfl, hz⟩; rw [hz]; clear hz; have done1 : True := trivial)
                  | (at_builtin; refine wpList_appG Try.underlying54 i36 rfl (by decide) (by decide) w4.heap.size _ rfl _ _ rfl 0 ([]) (VU [y]) _ rfl (own_nil 36 1 w4.heap.size _) ((Keep.refl w4).alloc (Obj.cells #[.int .u64 (y : Nat)] 36)).le ⟨w4.heap.size, 0, none⟩ 1 rfl rfl (newsU w4 y) (VU_one _) (by omega) ?_; intro v5 w5 o5 g5; have k5 := keep_grown ((Keep.refl w4).alloc (Obj.cells #[.int .u64 (y : Nat)] 36)) (own_nil 36 1 w4.heap.size _) g5; have z00 := k5.cell z0; have z10 := k5.cell z1; have z20 := k5.cell z2; have z30 := k5.cell z3; have z40 := k5.cell z4; have cv0 := k5.cell cv; have cz0 := k5.cell cz))
                have ow : w5.ownsRow w4.heap.size 36 1 v5 L.length (VU L) := by rw [HLL.out]; exact o5
                obtain ⟨a', c', hv5, h1, h2⟩ := own_rdu ow
                clear ow
                subst hv5
                go_meet
                exact ⟨a', c', rfl, h1, h2, k5⟩
              · have HLL : Hid (L = [l.getD p 0, nxB 9218868437227405313 (key (l.getD (p - 1) 0))]) := by
                  show _ = _
                  rw [hLT.out]; unfold tryF
                  rw [if_pos hp, if_neg (beq_eq_false_iff_ne.1 hpv)]
                  rw [if_pos h0, if_pos (beq_iff_eq.1 hnx)]
                  rfl
                clear hLT
                have hpc : (p : Int) < (l.length : Int) := by omega
                have hlss : decide ((p : Int) < (l.length : Int)) = true := decide_eq_true hpc
                obtain ⟨b3, o3, e3, cv⟩ := rl4 p hp
                have hb := f64bits (l.getD p 0)
                have hPv := fun wx => rStep_down (l.getD p 0) wx (p4 p hp)
                generalize l.getD p 0 = y at *
                generalize pvE (key y) = pe at *
                generalize pvB 9218868437227405313 (key y) = pv at *
                have hgt : decide ((0 : Int) < (p : Int)) = true := decide_eq_true (by omega)
                obtain ⟨r, hr⟩ : ∃ r, p = r + 1 := ⟨p - 1, by omega⟩
                have hri : (p : Int) - 1 = (r : Int) := by omega
                rw [show p - 1 = r by omega] at *
                have hrl2 : r < l.length := by omega
                have hrc : (r : Int) < (l.length : Int) := by omega
                obtain ⟨b4, o4, e4, cz⟩ := rl4 r hrl2
                have hb2 := f64bits (l.getD r 0)
                have hNx := fun wx => rStep_up (l.getD r 0) wx (p4 r hrl2)
                generalize l.getD r 0 = z at *
                generalize nxE (key z) = ne at *
                generalize nxB 9218868437227405313 (key z) = nx at *
                clear hr
                subst e3
                simp only [Option.some.injEq, Addr.mk.injEq, and_true] at e4
                obtain ⟨rfl, rfl⟩ := e4
                clear rl4 rt4 p4 r3 hF2 hpl
                go_wp2_with (first
                  | (go_at_call 20; have _t := done1; refine (hNx _).mono ?_; rintro e wz ⟨rfl, hz⟩; rw [hz]; clear hz)
                  | (go_at_call 20; refine (hPv _).mono ?_; rintro e wz ⟨rfl, hz⟩; rw [hz]; clear hz; have done1 : True := trivial)
                  | (at_builtin; refine wpList_appG Try.underlying54 i36 rfl (by decide) (by decide) w4.heap.size _ rfl _ _ rfl 1 (VU [y]) (VU [nx]) _ rfl (own_keep o5 ((Keep.refl w5).alloc _)) (k5.alloc (Obj.cells #[.int .u64 (nx : Nat)] 36)).le ⟨w5.heap.size, 0, none⟩ 1 rfl rfl (newsU w5 nx) (VU_one _) (by omega) ?_; intro v6 w6 o6 g6; have k6 := keep_grown (k5.alloc (Obj.cells #[.int .u64 (nx : Nat)] 36)) (own_keep o5 ((Keep.refl w5).alloc _)) g6; have z01 := k6.cell z0; have z11 := k6.cell z1; have z21 := k6.cell z2; have z31 := k6.cell z3; have z41 := k6.cell z4; have cv1 := k6.cell cv; have cz1 := k6.cell cz)
                  | (at_builtin; refine wpList_appG Try.underlying54 i36 rfl (by decide) (by decide) w4.heap.size _ rfl _ _ rfl 0 ([]) (VU [y]) _ rfl (own_nil 36 1 w4.heap.size _) ((Keep.refl w4).alloc (Obj.cells #[.int .u64 (y : Nat)] 36)).le ⟨w4.heap.size, 0, none⟩ 1 rfl rfl (newsU w4 y) (VU_one _) (by omega) ?_; intro v5 w5 o5 g5; have k5 := keep_grown ((Keep.refl w4).alloc (Obj.cells #[.int .u64 (y : Nat)] 36)) (own_nil 36 1 w4.heap.size _) g5; have z00 := k5.cell z0; have z10 := k5.cell z1; have z20 := k5.cell z2; have z30 := k5.cell z3; have z40 := k5.cell z4; have cv0 := k5.cell cv; have cz0 := k5.cell cz))
                have ow : w6.ownsRow w4.heap.size 36 1 v6 L.length (VU L) := by rw [HLL.out]; exact o6
                obtain ⟨a', c', hv5, h1, h2⟩ := own_rdu ow
                clear ow
                subst hv5
                go_meet
                exact ⟨a', c', rfl, h1, h2, k6⟩
            · have HLL : Hid (L = [l.getD p 0]) := by
                show _ = _
                rw [hLT.out]; unfold tryF
                rw [if_pos hp, if_neg (beq_eq_false_iff_ne.1 hpv)]
                rw [if_neg h0]
                rfl
              clear hLT
              have hpc : (p : Int) < (l.length : Int) := by omega
              have hlss : decide ((p : Int) < (l.length : Int)) = true := decide_eq_true hpc
              obtain ⟨b3, o3, e3, cv⟩ := rl4 p hp
              have hb := f64bits (l.getD p 0)
              have hPv := fun wx => rStep_down (l.getD p 0) wx (p4 p hp)
              generalize l.getD p 0 = y at *
              generalize pvE (key y) = pe at *
              generalize pvB 9218868437227405313 (key y) = pv at *
              have hgt : decide ((0 : Int) < (p : Int)) = false := decide_eq_false (by omega)
              subst e3
              clear rl4 rt4 p4 r3 hF2 hpl
              go_wp2_with (first
                | (go_at_call 20; refine (hPv _).mono ?_; rintro e wz ⟨rfl, hz⟩; rw [hz]; clear hz; have done1 : True := trivial)
                | (at_builtin; refine wpList_appG Try.underlying54 i36 rfl (by decide) (by decide) w4.heap.size _ rfl _ _ rfl 0 ([]) (VU [y]) _ rfl (own_nil 36 1 w4.heap.size _) ((Keep.refl w4).alloc (Obj.cells #[.int .u64 (y : Nat)] 36)).le ⟨w4.heap.size, 0, none⟩ 1 rfl rfl (newsU w4 y) (VU_one _) (by omega) ?_; intro v5 w5 o5 g5; have k5 := keep_grown ((Keep.refl w4).alloc (Obj.cells #[.int .u64 (y : Nat)] 36)) (own_nil 36 1 w4.heap.size _) g5; have z00 := k5.cell z0; have z10 := k5.cell z1; have z20 := k5.cell z2; have z30 := k5.cell z3; have z40 := k5.cell z4; have cv0 := k5.cell cv))
              have ow : w5.ownsRow w4.heap.size 36 1 v5 L.length (VU L) := by rw [HLL.out]; exact o5
              obtain ⟨a', c', hv5, h1, h2⟩ := own_rdu ow
              clear ow
              subst hv5
              go_meet
              exact ⟨a', c', rfl, h1, h2, k5⟩
          · by_cases h0 : 0 < p
            · cases hnx : (nxE (key (l.getD (p - 1) 0)) == 0)
              · have HLL : Hid (L = [l.getD p 0, pvB 9218868437227405313 (key (l.getD p 0))]) := by
                  show _ = _
                  rw [hLT.out]; unfold tryF
                  rw [if_pos hp, if_pos (beq_iff_eq.1 hpv)]
                  rw [if_pos h0, if_neg (beq_eq_false_iff_ne.1 hnx)]
                  rfl
                clear hLT
                have hpc : (p : Int) < (l.length : Int) := by omega
                have hlss : decide ((p : Int) < (l.length : Int)) = true := decide_eq_true hpc
                obtain ⟨b3, o3, e3, cv⟩ := rl4 p hp
                have hb := f64bits (l.getD p 0)
                have hPv := fun wx => rStep_down (l.getD p 0) wx (p4 p hp)
                generalize l.getD p 0 = y at *
                generalize pvE (key y) = pe at *
                generalize pvB 9218868437227405313 (key y) = pv at *
                have hgt : decide ((0 : Int) < (p : Int)) = true := decide_eq_true (by omega)
                obtain ⟨r, hr⟩ : ∃ r, p = r + 1 := ⟨p - 1, by omega⟩
                have hri : (p : Int) - 1 = (r : Int) := by omega
                rw [show p - 1 = r by omega] at *
                have hrl2 : r < l.length := by omega
                have hrc : (r : Int) < (l.length : Int) := by omega
                obtain ⟨b4, o4, e4, cz⟩ := rl4 r hrl2
                have hb2 := f64bits (l.getD r 0)
                have hNx := fun wx => rStep_up (l.getD r 0) wx (p4 r hrl2)
                generalize l.getD r 0 = z at *
                generalize nxE (key z) = ne at *
                generalize nxB 9218868437227405313 (key z) = nx at *
                clear hr
                subst e3
                simp only [Option.some.injEq, Addr.mk.injEq, and_true] at e4
                obtain ⟨rfl, rfl⟩ := e4
                clear rl4 rt4 p4 r3 hF2 hpl
                go_wp2_with (first
                  | (go_at_call 20; have _t := done1; refine (hNx _).mono ?_; rintro e wz ⟨rfl, hz⟩; rw [hz]; clear hz)
                  | (go_at_call 20; refine (hPv _).mono ?_; rintro e wz ⟨rfl, hz⟩; rw [hz]; clear hz; have done1 : True := trivial)
                  | (at_builtin; refine wpList_appG Try.underlying54 i36 rfl (by decide) (by decide) w4.heap.size _ rfl _ _ rfl 1 (VU [y]) (VU [pv]) _ rfl (own_keep o5 ((Keep.refl w5).alloc _)) (k5.alloc (Obj.cells #[.int .u64 (pv : Nat)] 36)).le ⟨w5.heap.size, 0, none⟩ 1 rfl rfl (newsU w5 pv) (VU_one _) (by omega) ?_; intro v6 w6 o6 g6; have k6 := keep_grown (k5.alloc (Obj.cells #[.int .u64 (pv : Nat)] 36)) (own_keep o5 ((Keep.refl w5).alloc _)) g6; have z01 := k6.cell z0; have z11 := k6.cell z1; have z21 := k6.cell z2; have z31 := k6.cell z3; have z41 := k6.cell z4; have cv1 := k6.cell cv; have cz1 := k6.cell cz)
                  | (at_builtin; refine wpList_appG Try.underlying54 i36 rfl (by decide) (by decide) w4.heap.size _ rfl _ _ rfl 0 ([]) (VU [y]) _ rfl (own_nil 36 1 w4.heap.size _) ((Keep.refl w4).alloc (Obj.cells #[.int .u64 (y : Nat)] 36)).le ⟨w4.heap.size, 0, none⟩ 1 rfl rfl (newsU w4 y) (VU_one _) (by omega) ?_; intro v5 w5 o5 g5; have k5 := keep_grown ((Keep.refl w4).alloc (Obj.cells #[.int .u64 (y : Nat)] 36)) (own_nil 36 1 w4.heap.size _) g5; have z00 := k5.cell z0; have z10 := k5.cell z1; have z20 := k5.cell z2; have z30 := k5.cell z3; have z40 := k5.cell z4; have cv0 := k5.cell cv; have cz0 := k5.cell cz))
                have ow : w6.ownsRow w4.heap.size 36 1 v6 L.length (VU L) := by rw [HLL.out]; exact o6
                obtain ⟨a', c', hv5, h1, h2⟩ := own_rdu ow
                clear ow
                subst hv5
                go_meet
                exact ⟨a', c', rfl, h1, h2, k6⟩
              · have HLL : Hid (L = [l.getD p 0, pvB 9218868437227405313 (key (l.getD p 0)), nxB 9218868437227405313 (key (l.getD (p - 1) 0))]) := by
                  show _ = _
                  rw [hLT.out]; unfold tryF
                  rw [if_pos hp, if_pos (beq_iff_eq.1 hpv)]
                  rw [if_pos h0, if_pos (beq_iff_eq.1 hnx)]
                  rfl
                clear hLT
                have hpc : (p : Int) < (l.length : Int) := by omega
                have hlss : decide ((p : Int) < (l.length : Int)) = true := decide_eq_true hpc
                obtain ⟨b3, o3, e3, cv⟩ := rl4 p hp
                have hb := f64bits (l.getD p 0)
                have hPv := fun wx => rStep_down (l.getD p 0) wx (p4 p hp)
                generalize l.getD p 0 = y at *
                generalize pvE (key y) = pe at *
                generalize pvB 9218868437227405313 (key y) = pv at *
                have hgt : decide ((0 : Int) < (p : Int)) = true := decide_eq_true (by omega)
                obtain ⟨r, hr⟩ : ∃ r, p = r + 1 := ⟨p - 1, by omega⟩
                have hri : (p : Int) - 1 = (r : Int) := by omega
                rw [show p - 1 = r by omega] at *
                have hrl2 : r < l.length := by omega
                have hrc : (r : Int) < (l.length : Int) := by omega
                obtain ⟨b4, o4, e4, cz⟩ := rl4 r hrl2
                have hb2 := f64bits (l.getD r 0)
                have hNx := fun wx => rStep_up (l.getD r 0) wx (p4 r hrl2)
                generalize l.getD r 0 = z at *
                generalize nxE (key z) = ne at *
                generalize nxB 9218868437227405313 (key z) = nx at *
                clear hr
                subst e3
                simp only [Option.some.injEq, Addr.mk.injEq, and_true] at e4
                obtain ⟨rfl, rfl⟩ := e4
                clear rl4 rt4 p4 r3 hF2 hpl
                go_wp2_with (first
                  | (go_at_call 20; have _t := done1; refine (hNx _).mono ?_; rintro e wz ⟨rfl, hz⟩; rw [hz]; clear hz)
                  | (go_at_call 20; refine (hPv _).mono ?_; rintro e wz ⟨rfl, hz⟩; rw [hz]; clear hz; have done1 : True := trivial)
                  | (at_builtin; refine wpList_appG Try.underlying54 i36 rfl (by decide) (by decide) w4.heap.size _ rfl _ _ rfl 2 (VU [y, pv]) (VU [nx]) _ rfl (own_keep o6 ((Keep.refl w6).alloc _)) (k6.alloc (Obj.cells #[.int .u64 (nx : Nat)] 36)).le ⟨w6.heap.size, 0, none⟩ 1 rfl rfl (newsU w6 nx) (VU_one _) (by omega) ?_; intro v7 w7 o7 g7; have k7 := keep_grown (k6.alloc (Obj.cells #[.int .u64 (nx : Nat)] 36)) (own_keep o6 ((Keep.refl w6).alloc _)) g7; have z02 := k7.cell z0; have z12 := k7.cell z1; have z22 := k7.cell z2; have z32 := k7.cell z3; have z42 := k7.cell z4; have cv2 := k7.cell cv; have cz2 := k7.cell cz)
                  | (at_builtin; refine wpList_appG Try.underlying54 i36 rfl (by decide) (by decide) w4.heap.size _ rfl _ _ rfl 1 (VU [y]) (VU [pv]) _ rfl (own_keep o5 ((Keep.refl w5).alloc _)) (k5.alloc (Obj.cells #[.int .u64 (pv : Nat)] 36)).le ⟨w5.heap.size, 0, none⟩ 1 rfl rfl (newsU w5 pv) (VU_one _) (by omega) ?_; intro v6 w6 o6 g6; have k6 := keep_grown (k5.alloc (Obj.cells #[.int .u64 (pv : Nat)] 36)) (own_keep o5 ((Keep.refl w5).alloc _)) g6; have z01 := k6.cell z0; have z11 := k6.cell z1; have z21 := k6.cell z2; have z31 := k6.cell z3; have z41 := k6.cell z4; have cv1 := k6.cell cv; have cz1 := k6.cell cz)
                  | (at_builtin; refine wpList_appG Try.underlying54 i36 rfl (by decide) (by decide) w4.heap.size _ rfl _ _ rfl 0 ([]) (VU [y]) _ rfl (own_nil 36 1 w4.heap.size _) ((Keep.refl w4).alloc (Obj.cells #[.int .u64 (y : Nat)] 36)).le ⟨w4.heap.size, 0, none⟩ 1 rfl rfl (newsU w4 y) (VU_one _) (by omega) ?_; intro v5 w5 o5 g5; have k5 := keep_grown ((Keep.refl w4).alloc (Obj.cells #[.int .u64 (y : Nat)] 36)) (own_nil 36 1 w4.heap.size _) g5; have z00 := k5.cell z0; have z10 := k5.cell z1; have z20 := k5.cell z2; have z30 := k5.cell z3; have z40 := k5.cell z4; have cv0 := k5.cell cv; have cz0 := k5.cell cz))
                have ow : w7.ownsRow w4.heap.size 36 1 v7 L.length (VU L) := by rw [HLL.out]; exact o7
                obtain ⟨a', c', hv5, h1, h2⟩ := own_rdu ow
                clear ow
                subst hv5
                go_meet
                exact ⟨a', c', rfl, h1, h2, k7⟩
            · have HLL : Hid (L = [l.getD p 0, pvB 9218868437227405313 (key (l.getD p 0))]) := by
                show _ = _
                rw [hLT.out]; unfold tryF
                rw [if_pos hp, if_pos (beq_iff_eq.1 hpv)]
                rw [if_neg h0]
                rfl
              clear hLT
              have hpc : (p : Int) < (l.length : Int) := by omega
              have hlss : decide ((p : Int) < (l.length : Int)) = true := decide_eq_true hpc
              obtain ⟨b3, o3, e3, cv⟩ := rl4 p hp
              have hb := f64bits (l.getD p 0)
              have hPv := fun wx => rStep_down (l.getD p 0) wx (p4 p hp)
              generalize l.getD p 0 = y at *
              generalize pvE (key y) = pe at *
              generalize pvB 9218868437227405313 (key y) = pv at *
              have hgt : decide ((0 : Int) < (p : Int)) = false := decide_eq_false (by omega)
              subst e3
              clear rl4 rt4 p4 r3 hF2 hpl
              go_wp2_with (first
                | (go_at_call 20; refine (hPv _).mono ?_; rintro e wz ⟨rfl, hz⟩; rw [hz]; clear hz; have done1 : True := trivial)
                | (at_builtin; refine wpList_appG Try.underlying54 i36 rfl (by decide) (by decide) w4.heap.size _ rfl _ _ rfl 1 (VU [y]) (VU [pv]) _ rfl (own_keep o5 ((Keep.refl w5).alloc _)) (k5.alloc (Obj.cells #[.int .u64 (pv : Nat)] 36)).le ⟨w5.heap.size, 0, none⟩ 1 rfl rfl (newsU w5 pv) (VU_one _) (by omega) ?_; intro v6 w6 o6 g6; have k6 := keep_grown (k5.alloc (Obj.cells #[.int .u64 (pv : Nat)] 36)) (own_keep o5 ((Keep.refl w5).alloc _)) g6; have z01 := k6.cell z0; have z11 := k6.cell z1; have z21 := k6.cell z2; have z31 := k6.cell z3; have z41 := k6.cell z4; have cv1 := k6.cell cv)
                | (at_builtin; refine wpList_appG Try.underlying54 i36 rfl (by decide) (by decide) w4.heap.size _ rfl _ _ rfl 0 ([]) (VU [y]) _ rfl (own_nil 36 1 w4.heap.size _) ((Keep.refl w4).alloc (Obj.cells #[.int .u64 (y : Nat)] 36)).le ⟨w4.heap.size, 0, none⟩ 1 rfl rfl (newsU w4 y) (VU_one _) (by omega) ?_; intro v5 w5 o5 g5; have k5 := keep_grown ((Keep.refl w4).alloc (Obj.cells #[.int .u64 (y : Nat)] 36)) (own_nil 36 1 w4.heap.size _) g5; have z00 := k5.cell z0; have z10 := k5.cell z1; have z20 := k5.cell z2; have z30 := k5.cell z3; have z40 := k5.cell z4; have cv0 := k5.cell cv))
              have ow : w6.ownsRow w4.heap.size 36 1 v6 L.length (VU L) := by rw [HLL.out]; exact o6
              obtain ⟨a', c', hv5, h1, h2⟩ := own_rdu ow
              clear ow
              subst hv5
              go_meet
              exact ⟨a', c', rfl, h1, h2, k6⟩
        · have h0 : 0 < p := by omega
          cases hnx : (nxE (key (l.getD (p - 1) 0)) == 0)
          · have HLL : Hid (L = []) := by
              show _ = _
              rw [hLT.out]; unfold tryF
              rw [if_neg hp]
              rw [if_pos h0, if_neg (beq_eq_false_iff_ne.1 hnx)]
              rfl
            clear hLT
            have hpc : ¬ (p : Int) < (l.length : Int) := by omega
            have hlss : decide ((p : Int) < (l.length : Int)) = false := decide_eq_false hpc
            have hgt : decide ((0 : Int) < (p : Int)) = true := decide_eq_true (by omega)
            obtain ⟨r, hr⟩ : ∃ r, p = r + 1 := ⟨p - 1, by omega⟩
            have hri : (p : Int) - 1 = (r : Int) := by omega
            rw [show p - 1 = r by omega] at *
            have hrl2 : r < l.length := by omega
            have hrc : (r : Int) < (l.length : Int) := by omega
            obtain ⟨b4, o4, e4, cz⟩ := rl4 r hrl2
            have hb2 := f64bits (l.getD r 0)
            have hNx := fun wx => rStep_up (l.getD r 0) wx (p4 r hrl2)
            generalize l.getD r 0 = z at *
            generalize nxE (key z) = ne at *
            generalize nxB 9218868437227405313 (key z) = nx at *
            clear hr
            subst e4
            clear rl4 rt4 p4 r3 hF2 hpl
            go_wp2_with (first
              | (go_at_call 20; refine (hNx _).mono ?_; rintro e wz ⟨rfl, hz⟩; rw [hz]; clear hz))
            go_meet
            exact ⟨none, 0, by rw [HLL.out]; rfl, by rw [HLL.out]; exact Nat.le_refl _, by rw [HLL.out]; intro j hj; simp at hj, Keep.refl _⟩
          · have HLL : Hid (L = [nxB 9218868437227405313 (key (l.getD (p - 1) 0))]) := by
              show _ = _
              rw [hLT.out]; unfold tryF
              rw [if_neg hp]
              rw [if_pos h0, if_pos (beq_iff_eq.1 hnx)]
              rfl
            clear hLT
            have hpc : ¬ (p : Int) < (l.length : Int) := by omega
            have hlss : decide ((p : Int) < (l.length : Int)) = false := decide_eq_false hpc
            have hgt : decide ((0 : Int) < (p : Int)) = true := decide_eq_true (by omega)
            obtain ⟨r, hr⟩ : ∃ r, p = r + 1 := ⟨p - 1, by omega⟩
            have hri : (p : Int) - 1 = (r : Int) := by omega
            rw [show p - 1 = r by omega] at *
            have hrl2 : r < l.length := by omega
            have hrc : (r : Int) < (l.length : Int) := by omega
            obtain ⟨b4, o4, e4, cz⟩ := rl4 r hrl2
            have hb2 := f64bits (l.getD r 0)
            have hNx := fun wx => rStep_up (l.getD r 0) wx (p4 r hrl2)
            generalize l.getD r 0 = z at *
            generalize nxE (key z) = ne at *
            generalize nxB 9218868437227405313 (key z) = nx at *
            clear hr
            subst e4
            clear rl4 rt4 p4 r3 hF2 hpl
            go_wp2_with (first
              | (go_at_call 20; refine (hNx _).mono ?_; rintro e wz ⟨rfl, hz⟩; rw [hz]; clear hz)
              | (at_builtin; refine wpList_appG Try.underlying54 i36 rfl (by decide) (by decide) w4.heap.size _ rfl _ _ rfl 0 ([]) (VU [nx]) _ rfl (own_nil 36 1 w4.heap.size _) ((Keep.refl w4).alloc (Obj.cells #[.int .u64 (nx : Nat)] 36)).le ⟨w4.heap.size, 0, none⟩ 1 rfl rfl (newsU w4 nx) (VU_one _) (by omega) ?_; intro v5 w5 o5 g5; have k5 := keep_grown ((Keep.refl w4).alloc (Obj.cells #[.int .u64 (nx : Nat)] 36)) (own_nil 36 1 w4.heap.size _) g5; have z00 := k5.cell z0; have z10 := k5.cell z1; have z20 := k5.cell z2; have z30 := k5.cell z3; have z40 := k5.cell z4; have cz0 := k5.cell cz))
            have ow : w5.ownsRow w4.heap.size 36 1 v5 L.length (VU L) := by rw [HLL.out]; exact o5
            obtain ⟨a', c', hv5, h1, h2⟩ := own_rdu ow
            clear ow
            subst hv5
            go_meet
            exact ⟨a', c', rfl, h1, h2, k5⟩
  case rest =>
    obtain ⟨ta, tc, rfl, htc, hrd, kc⟩ := hcut
    have K4 := k3.trans k4
    have d0 := kc.cell z0
    have d1 := kc.cell z1
    have d2 := kc.cell z2
    have d3 := kc.cell z3
    have d4 := kc.cell z4
    clear z0 z1 z2 z3 z4 pz rz y0 y1 y2 y3 y4 hRt hFt hw1 hw2
    go_wp2_with fail
    go_loopw [16] (fun i wr => ∃ k : Nat, k ≤ L.length ∧ i = .int .i64 k ∧ Keep wc wr ∧ Hid (∀ j, j < k → decide (cdF (kys l) (kts t) (L.getD j 0) = (b, q, false)) = false)) (fun i _ => L.length - (intOf i).toNat)
    case atStart => exact ⟨0, by omega, rfl, Keep.refl _, fun j hj => by omega⟩
    case round =>
      obtain ⟨k, hk, rfl, kw, HJ⟩ := hrel
      by_cases hkl : k < L.length
      · have hkc : (k : Int) < (L.length : Int) := by omega
        obtain ⟨bl, ol, rfl, cv⟩ := (hrd.keep kw) k hkl
        have hv : L.getD k 0 < 18446744073709551616 := hLT2.out _ (by simp [List.getD, hkl])
        have hc2 := fun wz (kz : Keep wr wz) => hcode.out wz (L.getD k 0) (K4.trans (kc.trans (kw.trans kz))) hv
        have hff := f64from (L.getD k 0)
        have HY : Hid (decide (cdF (kys l) (kts t) (L.getD k 0) = (b, q, false)) = true → PO = some (L.getD k 0)) := fun hh => by rw [HPO.out]; exact fnd_skip hkl HJ.out hh
        have HN : Hid (decide (cdF (kys l) (kts t) (L.getD k 0) = (b, q, false)) = false → ∀ j, j < k + 1 → decide (cdF (kys l) (kts t) (L.getD j 0) = (b, q, false)) = false) := fun hh j hj => by
          by_cases e : j = k
          · rw [e]; exact hh
          · exact HJ.out j (by omega)
        generalize L.getD k 0 = v at *
        obtain ⟨p', q', lo', hcd⟩ : ∃ p' q' lo', cdF (kys l) (kts t) v = (p', q', lo') := ⟨_, _, _, rfl⟩
        rw [hcd] at hc2 HY HN
        have c0' := kw.cell d0
        have c1' := kw.cell d1
        have c2' := kw.cell d2
        have c3' := kw.cell d3
        have c4' := kw.cell d4
        clear hcd
        have HD : Hid (decide (((p', q', lo') : Cd) = (b, q, false)) = decide (p' = b ∧ q' = q ∧ lo' = false)) := by show _ = _; rw [decide_eq_decide]; simp
        rw [HD.out] at HY HN
        clear HD
        obtain ⟨rb, hrb⟩ : ∃ rb, decide (p' = b ∧ q' = q ∧ lo' = false) = rb := ⟨_, rfl⟩
        go_wp2_with fail
        refine region_keep (Keep.refl wr) (by kernel_rfl) (by kernel_rfl) ?_
        repeat
          with_reducible refine wpQuiet_step ?_
          intro K hK
          go_simp
          first
            | (with_reducible refine hK _ ?_; clear hK K)
            | (apply Exists.intro
               with_reducible refine ⟨fun wx hC => ?_, hK _ ?_⟩
               · first
                   | with_reducible rfl
                   | with_reducible exact (hc2 wx hC).mono fun e w'' h => ⟨h.1, hC.trans h.2⟩
                   | (have y0 := hC.cell c0'; have y1 := hC.cell c1'; have y2 := hC.cell c2'; have y3 := hC.cell c3'; have y4 := hC.cell c4'; have y5 := hC.cell cv; go_simp; with_reducible rfl)
               clear hK K)
        with_reducible refine wpQuiet_nil ?_
        intro w9 k9
        have cv9 := k9.cell cv
        cases rb
        · have HN2 := HN.out hrb
          replace HN2 : Hid _ := HN2
          clear HY HN hrb hc2
          go_simp
          go_wp2_with fail
          go_roundw
          case rel => exact ⟨k + 1, by omega, by go_num, kw.trans k9, HN2⟩
          case measure => simp [intOf]; omega
        · have HP := HY.out hrb
          have x1 := hXV.out
          have x2 := hXE.out
          rw [HP] at x1 x2
          replace x1 : Hid _ := x1
          replace x2 : Hid _ := x2
          clear HY HN hrb hc2 HP
          go_simp
          go_wp2_with fail
          go_ret2
          refine ⟨?_, k12.trans (K4.trans (kc.trans (kw.trans k9)))⟩
          rw [← x1.out, ← x2.out]; rfl
      · have hkc : ¬ (k : Int) < (L.length : Int) := by omega
        have HF : Hid (PO = none) := by show _ = _; rw [HPO.out]; exact fnd_none (fun j hj => HJ.out j (by omega))
        go_wp2_with fail
        go_ret2
        have x1 := hXV.out
        have x2 := hXE.out
        rw [HF.out] at x1 x2
        refine ⟨?_, k12.trans (K4.trans (kc.trans kw))⟩
        rw [← x1, ← x2]; rfl
end Go.Proofs.Ytjbiknnichfajaa
