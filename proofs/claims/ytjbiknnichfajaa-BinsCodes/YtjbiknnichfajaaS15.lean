import Derived.Test.YtjbiknnichfajaaS14
set_option linter.unusedVariables false
set_option linter.unusedSimpArgs false
namespace Go.Proofs.Ytjbiknnichfajaa
open Go.RowKit Go.Shelf
attribute [local go_sem high] run_eqlC run_neqC run_guardC
set_option maxRecDepth 100000 in
set_option maxHeartbeats 1000000 in
theorem Point_wrong (a a2 : Option Addr) (c c2 : Nat) (V : List (List Nat)) (T : List (List Int)) (f : Int) (k : Cd) (w : World) (h : Bn w a a2 V T) (hr : rightB V T = false) :
    Calls Try.prog 6 #[BV a V.length c a2 T.length c2, .int .i64 f, CV k] w fun e w' => e = .returned (.tuple #[.float .f64 0, .int .i64 200]) ∧ Keep w w' := by
  obtain ⟨b, q, lo⟩ := k
  obtain ⟨w1, hw1, k1, t1, s1⟩ := boxed w #[.slice a V.length c, .slice a2 T.length c2] 25
  obtain ⟨w2, hw2, k2, t2, s2⟩ := boxed w1 #[.int .i64 b, .int .i64 q, .bool lo] 28
  rw [s1] at t2
  have k12 := k1.trans k2
  have q1 := k2.at t1
  obtain ⟨x0, x1, f0, f1⟩ := cells2 q1
  have hRt := Right_any a a2 c c2 V T w2 (h.keep k12)
  rw [hr] at hRt
  clear s2
  go_enter Try.func6, Try.ntmps6
  go_wp2_with (first
    | rw [hw1]
    | rw [hw2]
    | (go_at_call 8; refine hRt.mono ?_; rintro e w3 ⟨rfl, k3⟩))
  go_ret2
  exact ⟨rfl, k12.trans k3⟩
set_option maxRecDepth 100000 in
set_option maxHeartbeats 1000000 in
theorem Point_far (a a2 : Option Addr) (c c2 : Nat) (V : List (List Nat)) (T : List (List Int)) (f : Int) (k : Cd) (w : World) (h : Bn w a a2 V T) (hr : rightB V T = true) (hf : ¬ (0 ≤ f ∧ f < V.length)) :
    Calls Try.prog 6 #[BV a V.length c a2 T.length c2, .int .i64 f, CV k] w fun e w' => e = .returned (.tuple #[.float .f64 0, .int .i64 2]) ∧ Keep w w' := by
  obtain ⟨b, q, lo⟩ := k
  obtain ⟨w1, hw1, k1, t1, s1⟩ := boxed w #[.slice a V.length c, .slice a2 T.length c2] 25
  obtain ⟨w2, hw2, k2, t2, s2⟩ := boxed w1 #[.int .i64 b, .int .i64 q, .bool lo] 28
  rw [s1] at t2
  have k12 := k1.trans k2
  have q1 := k2.at t1
  obtain ⟨x0, x1, f0, f1⟩ := cells2 q1
  have hRt := Right_any a a2 c c2 V T w2 (h.keep k12)
  rw [hr] at hRt
  have hP := fun wx => isPlace22 a V.length c f wx
  rw [decide_eq_false hf] at hP
  clear s2 hf hr
  go_enter Try.func6, Try.ntmps6
  go_wp2_with (first
    | rw [hw1]
    | rw [hw2]
    | (go_at_call 8; refine hRt.mono ?_; rintro e w3 ⟨rfl, k3⟩; have y0 := k3.cell x0; have y1 := k3.cell x1)
    | (go_at_call 16; refine (hP _).mono ?_; rintro e wz ⟨rfl, hz⟩; rw [hz]; clear hz))
  go_ret2
  exact ⟨rfl, k12.trans k3⟩
set_option maxRecDepth 100000 in
set_option maxHeartbeats 1000000 in
theorem Point_unfit (a a2 : Option Addr) (c c2 : Nat) (V : List (List Nat)) (T : List (List Int)) (f : Nat) (k : Cd) (w : World) (h : Bn w a a2 V T) (hr : rightB V T = true) (hf : f < V.length) (hF : fitB (V.getD f []).length (T.getD f []).length k = false) :
    Calls Try.prog 6 #[BV a V.length c a2 T.length c2, .int .i64 f, CV k] w fun e w' => e = .returned (.tuple #[.float .f64 0, .int .i64 200]) ∧ Keep w w' := by
  obtain ⟨b, q, lo⟩ := k
  obtain ⟨w1, hw1, k1, t1, s1⟩ := boxed w #[.slice a V.length c, .slice a2 T.length c2] 25
  obtain ⟨w2, hw2, k2, t2, s2⟩ := boxed w1 #[.int .i64 b, .int .i64 q, .bool lo] 28
  rw [s1] at t2
  have k12 := k1.trans k2
  have q1 := k2.at t1
  obtain ⟨x0, x1, f0, f1⟩ := cells2 q1
  obtain ⟨m0, m1, m2, n0, n1, n2⟩ := cells3 t2
  have hB := h.keep k12
  have hRt := Right_any a a2 c c2 V T w2 hB
  rw [hr] at hRt
  obtain ⟨g1, -, -⟩ := right_parts hr
  have hP := fun wx => isPlace22 a V.length c (f : Int) wx
  rw [decide_eq_true (show 0 ≤ (f : Int) ∧ (f : Int) < (V.length : Int) by omega)] at hP
  have hS := fun wx (kx : Keep w2 wx) => scaleOf_any a a2 c c2 V T f wx (hB.keep kx) hf (by omega)
  have hH := fun x cx y cy wz => has_any x y cx cy (V.getD f []).length (T.getD f []).length (b, q, lo) wz
  rw [hF] at hH
  clear s2 hr g1 h hF hB
  generalize (V.getD f []) = l at *
  generalize (T.getD f []) = t at *
  go_enter Try.func6, Try.ntmps6
  go_wp2_with (first
    | rw [hw1]
    | rw [hw2]
    | rw [hw5]
    | rw [hw6]
    | (go_at_call 8; refine hRt.mono ?_; rintro e w3 ⟨rfl, k3⟩; have y0 := k3.cell x0; have y1 := k3.cell x1; have y2 := k3.cell m0; have y3 := k3.cell m1; have y4 := k3.cell m2)
    | (go_at_call 16; refine (hP _).mono ?_; rintro e wz ⟨rfl, hz⟩; rw [hz]; clear hz)
    | (go_at_call 13; refine (hS _ k3).mono ?_; rintro e w4 ⟨x, cx, y, cy, rfl, hs, k4⟩; obtain ⟨w5, hw5, k5, t5, s5⟩ := boxed w4 #[.slice none 0 0, .slice none 0 0] 46; obtain ⟨z0, z1, z2, z3⟩ := cells2 t5; clear s5; obtain ⟨w6, hw6⟩ : ∃ w6, (w5.setCell ⟨w4.heap.size, 0, none⟩ (.slice x l.length cx)).setCell ⟨w4.heap.size, 1, none⟩ (.slice y t.length cy) = w6 := ⟨_, rfl⟩; have t6 := heap2 w5 w4.heap.size (.slice x l.length cx) (.slice y t.length cy) t5; have k6 := keep2 k5 w4.heap.size (Nat.le_refl _) (.slice x l.length cx) (.slice y t.length cy); rw [hw6] at t6 k6; obtain ⟨u0, u1, u2, u3⟩ := cells2 t6; have v2 := (k4.trans k6).cell y2; have v3 := (k4.trans k6).cell y3; have v4 := (k4.trans k6).cell y4)
    | (go_at_call 17; refine (hH x cx y cy _).mono ?_; rintro e w7 ⟨rfl, k7⟩))
  go_ret2
  exact ⟨rfl, k12.trans (k3.trans (k4.trans (k6.trans k7)))⟩
set_option maxRecDepth 100000 in
set_option maxHeartbeats 2000000 in
theorem Point_ok (a a2 : Option Addr) (c c2 : Nat) (V : List (List Nat)) (T : List (List Int)) (f : Nat) (k : Cd) (w : World) (h : Bn w a a2 V T) (hr : rightB V T = true) (hf : f < V.length) (hF : fitB (V.getD f []).length (T.getD f []).length k = true) :
    Calls Try.prog 6 #[BV a V.length c a2 T.length c2, .int .i64 f, CV k] w fun e w' => e = .returned (.tuple #[.float .f64 ((ptO V T f k 9221120237041090561).getD 0), .int .i64 (if (ptO V T f k 9221120237041090561).isSome = true then 0 else 200)]) ∧ Keep w w' := by
  obtain ⟨b, q, lo⟩ := k
  obtain ⟨w1, hw1, k1, t1, s1⟩ := boxed w #[.slice a V.length c, .slice a2 T.length c2] 25
  obtain ⟨w2, hw2, k2, t2, s2⟩ := boxed w1 #[.int .i64 b, .int .i64 q, .bool lo] 28
  rw [s1] at t2
  have k12 := k1.trans k2
  have q1 := k2.at t1
  obtain ⟨x0, x1, f0, f1⟩ := cells2 q1
  obtain ⟨m0, m1, m2, n0, n1, n2⟩ := cells3 t2
  have hB := h.keep k12
  have hRt := Right_any a a2 c c2 V T w2 hB
  rw [hr] at hRt
  obtain ⟨g1, -, g3⟩ := right_parts hr
  have hR := g3 f hf
  have hP := fun wx => isPlace22 a V.length c (f : Int) wx
  rw [decide_eq_true (show 0 ≤ (f : Int) ∧ (f : Int) < (V.length : Int) by omega)] at hP
  have hS := fun wx (kx : Keep w2 wx) => scaleOf_any a a2 c c2 V T f wx (hB.keep kx) hf (by omega)
  have hH := fun x cx y cy wz => has_any x y cx cy (V.getD f []).length (T.getD f []).length (b, q, lo) wz
  rw [hF] at hH
  have hQ := fun x cx y cy wz (hs : Sc wz x y (V.getD f []) (T.getD f [])) => points_any x y cx cy (V.getD f []) (T.getD f []) (b, q, lo) wz hs hF
  have hLT := fun (hw : W64 (V.getD f [])) v hv => pts_lt (N := 9221120237041090561) (by omega) hw hR hF v hv
  have hsh := pts_short 9221120237041090561 (V.getD f []) (T.getD f []) (b, q, lo)
  have hcode := fun x cx y cy wz v (hs : Sc wz x y (V.getD f []) (T.getD f [])) (hv : v < 18446744073709551616) => code_any x y cx cy (V.getD f []) (T.getD f []) v wz hs hR hv
  have HPO : Hid (ptO V T f (b, q, lo) 9221120237041090561 = fnd (kys (V.getD f [])) (kts (T.getD f [])) (b, q, lo) (ptsL 9221120237041090561 (V.getD f []) (T.getD f []) (b, q, lo))) := rfl
  generalize ptO V T f (b, q, lo) 9221120237041090561 = PO at *
  obtain ⟨XV, hXV⟩ : ∃ XV : Nat, PO.getD 0 = XV := ⟨_, rfl⟩
  obtain ⟨XE, hXE⟩ : ∃ XE : Int, (if PO.isSome = true then (0 : Int) else 200) = XE := ⟨_, rfl⟩
  rw [hXV, hXE]
  replace hXV : Hid _ := hXV
  replace hXE : Hid _ := hXE
  clear s2 hr g1 g3 h hF hB hR
  generalize (V.getD f []) = l at *
  generalize (T.getD f []) = t at *
  generalize ptsL 9221120237041090561 l t (b, q, lo) = L at *
  replace hLT : Hid _ := hLT
  replace hcode : Hid _ := hcode
  go_enter Try.func6, Try.ntmps6
  go_wp2_with (first
    | rw [hw1]
    | rw [hw2]
    | rw [hw5]
    | rw [hw6]
    | (go_at_call 8; refine hRt.mono ?_; rintro e w3 ⟨rfl, k3⟩; have y0 := k3.cell x0; have y1 := k3.cell x1; have y2 := k3.cell m0; have y3 := k3.cell m1; have y4 := k3.cell m2)
    | (go_at_call 16; refine (hP _).mono ?_; rintro e wz ⟨rfl, hz⟩; rw [hz]; clear hz)
    | (go_at_call 13; refine (hS _ k3).mono ?_; rintro e w4 ⟨x, cx, y, cy, rfl, hs, k4⟩; obtain ⟨w5, hw5, k5, t5, s5⟩ := boxed w4 #[.slice none 0 0, .slice none 0 0] 46; obtain ⟨z0, z1, z2, z3⟩ := cells2 t5; clear s5; obtain ⟨w6, hw6⟩ : ∃ w6, (w5.setCell ⟨w4.heap.size, 0, none⟩ (.slice x l.length cx)).setCell ⟨w4.heap.size, 1, none⟩ (.slice y t.length cy) = w6 := ⟨_, rfl⟩; have t6 := heap2 w5 w4.heap.size (.slice x l.length cx) (.slice y t.length cy) t5; have k6 := keep2 k5 w4.heap.size (Nat.le_refl _) (.slice x l.length cx) (.slice y t.length cy); rw [hw6] at t6 k6; obtain ⟨u0, u1, u2, u3⟩ := cells2 t6; have v2 := (k4.trans k6).cell y2; have v3 := (k4.trans k6).cell y3; have v4 := (k4.trans k6).cell y4)
    | (go_at_call 17; refine (hH x cx y cy _).mono ?_; rintro e w7 ⟨rfl, k7⟩; have b0 := k7.cell u0; have b1 := k7.cell u1; have b2 := k7.cell v2; have b3 := k7.cell v3; have b4 := k7.cell v4)
    | (go_at_call 18; refine (hQ x cx y cy _ (hs.keep (k4.trans (k6.trans k7)))).mono ?_; rintro e w8 ⟨la, lc, rfl, hlc, hrd, k8⟩))
  have d0 := k8.cell b0
  have d1 := k8.cell b1
  have d2 := k8.cell b2
  have d3 := k8.cell b3
  have d4 := k8.cell b4
  have hs8 := hs.keep (k4.trans (k6.trans (k7.trans k8)))
  have K8 := k12.trans (k3.trans (k4.trans (k6.trans (k7.trans k8))))
  have hLT2 := hLT.out hs8.wl
  replace hLT2 : Hid _ := hLT2
  clear b0 b1 b2 b3 b4 v2 v3 v4 u0 u1 u2 u3 y0 y1 y2 y3 y4 hH hQ hS hP hRt hLT
  go_loopw [30] (fun i wr => ∃ k : Nat, k ≤ L.length ∧ i = .int .i64 k ∧ Keep w8 wr ∧ Hid (∀ j, j < k → decide (cdF (kys l) (kts t) (L.getD j 0) = (b, q, lo)) = false)) (fun i _ => L.length - (intOf i).toNat)
  case atStart => exact ⟨0, by omega, rfl, Keep.refl _, fun j hj => by omega⟩
  case round =>
    obtain ⟨k, hk, rfl, kw, HJ⟩ := hrel
    by_cases hkl : k < L.length
    · have hkc : (k : Int) < (L.length : Int) := by omega
      obtain ⟨bl, ol, rfl, cv⟩ := (hrd.keep kw) k hkl
      have hv : L.getD k 0 < 18446744073709551616 := hLT2.out _ (by simp [List.getD, hkl])
      have hc2 := fun wz (kz : Keep wr wz) => hcode.out x cx y cy wz (L.getD k 0) (hs8.keep (kw.trans kz)) hv
      have HY : Hid (decide (cdF (kys l) (kts t) (L.getD k 0) = (b, q, lo)) = true → PO = some (L.getD k 0)) := fun hh => by rw [HPO.out]; exact fnd_skip hkl HJ.out hh
      have HN : Hid (decide (cdF (kys l) (kts t) (L.getD k 0) = (b, q, lo)) = false → ∀ j, j < k + 1 → decide (cdF (kys l) (kts t) (L.getD j 0) = (b, q, lo)) = false) := fun hh j hj => by
        by_cases e : j = k
        · rw [e]; exact hh
        · exact HJ.out j (by omega)
      generalize L.getD k 0 = v at *
      obtain ⟨p', q', lo', hcd⟩ : ∃ p' q' lo', cdF (kys l) (kts t) v = (p', q', lo') := ⟨_, _, _, rfl⟩
      rw [hcd] at hc2 HY HN
      have c0' := kw.cell d0
      have c1' := kw.cell d1
      have c2' := kw.cell d2
      have c3' := kw.cell d3
      have c4' := kw.cell d4
      clear hcd
      have HD : Hid (decide (((p', q', lo') : Cd) = (b, q, lo)) = decide (p' = b ∧ q' = q ∧ lo' = lo)) := by show _ = _; rw [decide_eq_decide]; simp
      rw [HD.out] at HY HN
      clear HD
      obtain ⟨rb, hrb⟩ : ∃ rb, decide (p' = b ∧ q' = q ∧ lo' = lo) = rb := ⟨_, rfl⟩
      go_wp2_with fail
      refine region_keep (Keep.refl wr) (by kernel_rfl) (by kernel_rfl) ?_
      repeat
        with_reducible refine wpQuiet_step ?_
        intro K hK
        go_simp
        first
          | (with_reducible refine hK _ ?_; clear hK K)
          | (apply Exists.intro
             with_reducible refine ⟨fun wx hC => ?_, hK _ ?_⟩
             · first
                 | with_reducible rfl
                 | with_reducible exact (hc2 wx hC).mono fun e w'' h => ⟨h.1, hC.trans h.2⟩
                 | (have y0 := hC.cell c0'; have y1 := hC.cell c1'; have y2 := hC.cell c2'; have y3 := hC.cell c3'; have y4 := hC.cell c4'; go_simp; with_reducible rfl)
             clear hK K)
      with_reducible refine wpQuiet_nil ?_
      intro w9 k9
      cases rb
      · have HN2 := HN.out hrb
        replace HN2 : Hid _ := HN2
        clear HY HN hrb hc2
        go_simp
        go_wp2_with fail
        go_roundw
        case rel => exact ⟨k + 1, by omega, by go_num, kw.trans k9, HN2⟩
        case measure => simp [intOf]; omega
      · have HP := HY.out hrb
        have x1 := hXV.out
        have x2 := hXE.out
        rw [HP] at x1 x2
        replace x1 : Hid _ := x1
        replace x2 : Hid _ := x2
        clear HY HN hrb hc2 HP
        go_simp
        go_wp2_with fail
        go_ret2
        refine ⟨?_, K8.trans (kw.trans k9)⟩
        rw [← x1.out, ← x2.out]; rfl
    · have hkc : ¬ (k : Int) < (L.length : Int) := by omega
      have HF : Hid (PO = none) := by show _ = _; rw [HPO.out]; exact fnd_none (fun j hj => HJ.out j (by omega))
      go_wp2_with fail
      go_ret2
      have x1 := hXV.out
      have x2 := hXE.out
      rw [HF.out] at x1 x2
      refine ⟨?_, K8.trans kw⟩
      rw [← x1, ← x2]; rfl
end Go.Proofs.Ytjbiknnichfajaa
