import Derived.Test.YtjbiknnichfajaaS16
set_option linter.unusedVariables false
set_option linter.unusedSimpArgs false
namespace Go.Proofs.Ytjbiknnichfajaa
open Go.RowKit Go.Shelf
attribute [local go_sem high] run_eqlC run_neqC run_guardC
theorem atB_any (N M k : Nat) (h : k ≠ 18437736874454810625) : atB N k = atB M k := by unfold atB; rw [if_neg h, if_neg h]
theorem pvB_any (N M k : Nat) (h : k ≤ 18437736874454810625) : pvB N k = pvB M k := by
  unfold pvB; split
  · rfl
  · exact atB_any N M _ (by omega)
theorem nxB_any (N M k : Nat) : nxB N k = nxB M k := by
  unfold nxB; split
  · rfl
  · exact atB_any N M _ (by omega)
theorem pts_any (N M : Nat) (l : List Nat) (t : List Int) (k : Cd) : ptsL N l t k = ptsL M l t k := by
  unfold ptsL tryF
  rw [pvB_any N M _ (key_le _), nxB_any N M]
theorem ptO_any (V : List (List Nat)) (T : List (List Int)) (f : Int) (k : Cd) (N M : Nat) : ptO V T f k N = ptO V T f k M := by unfold ptO; rw [pts_any N M]
theorem ptO_lt {V : List (List Nat)} {T : List (List Int)} {f : Nat} {k : Cd} {N : Nat} (hN : N < 18446744073709551616) (hw : W64 (V.getD f [])) (hR : ScR (V.getD f []) (T.getD f [])) (hF : fitB (V.getD f []).length (T.getD f []).length k = true) : (ptO V T f k N).getD 0 < 18446744073709551616 := by
  have hp := pts_lt hN hw hR hF
  have he : ptO V T f k N = fnd (kys (V.getD f [])) (kts (T.getD f [])) k (ptsL N (V.getD f []) (T.getD f []) k) := rfl
  rw [he]
  cases hfnd : fnd (kys (V.getD f [])) (kts (T.getD f [])) k (ptsL N (V.getD f []) (T.getD f []) k) with
  | none => simp
  | some v => exact hp v (List.mem_of_find?_eq_some hfnd)
/-- Both Points. -/
theorem points_two (a a2 : Option Addr) (c c2 : Nat) (V : List (List Nat)) (T : List (List Int)) (f : Int) (k : Cd) (w0 : World) (h : Bn w0 a a2 V T) :
    ∃ (X Y : Nat) (E : Int), X < 18446744073709551616 ∧ Y < 18446744073709551616 ∧ ((isNaN Y ∧ isNaN X) ∨ (¬ isNaN Y ∧ X = Y)) ∧
      (∀ w, Keep w0 w → Calls Try.prog 6 #[BV a V.length c a2 T.length c2, .int .i64 f, CV k] w fun e w' => e = .returned (.tuple #[.float .f64 X, .int .i64 E]) ∧ Keep w w') ∧
      (∀ w, Keep w0 w → Calls Try.prog 7 #[BV a V.length c a2 T.length c2, .int .i64 f, CV k] w fun e w' => e = .returned (.tuple #[.int .u64 (Y : Nat), .int .i64 E]) ∧ Keep w w') := by
  obtain ⟨b, q, lo⟩ := k
  have z0 : ¬ isNaN 0 := by decide
  cases hr : rightB V T
  · exact ⟨0, 0, 200, by omega, by omega, .inr ⟨z0, rfl⟩, fun w kw => Point_wrong a a2 c c2 V T f (b, q, lo) w (h.keep kw) hr, fun w kw => rPoint_wrong a a2 c c2 V T f b q lo w (h.keep kw) hr⟩
  · by_cases hf : 0 ≤ f ∧ f < V.length
    · obtain ⟨g, rfl⟩ : ∃ g : Nat, f = g := ⟨f.toNat, by omega⟩
      have hg : g < V.length := by omega
      obtain ⟨g1, -, g3⟩ := right_parts hr
      have hR := g3 g hg
      have hw : W64 (V.getD g []) := by obtain ⟨_, _, _, _, _, _, _, _, h4⟩ := h.rv g hg; exact h4
      cases hF : fitB (V.getD g []).length (T.getD g []).length (b, q, lo)
      · exact ⟨0, 0, 200, by omega, by omega, .inr ⟨z0, rfl⟩, fun w kw => Point_unfit a a2 c c2 V T g (b, q, lo) w (h.keep kw) hr hg hF, fun w kw => rPoint_unfit a a2 c c2 V T g b q lo w (h.keep kw) hr hg hF⟩
      · cases lo
        · refine ⟨(ptO V T g (b, q, false) 9221120237041090561).getD 0, (ptO V T g (b, q, false) 9218868437227405313).getD 0, (if (ptO V T g (b, q, false) 9221120237041090561).isSome = true then 0 else 200), ptO_lt (by omega) hw hR hF, ptO_lt (by omega) hw hR hF, ?_, fun w kw => Point_ok a a2 c c2 V T g (b, q, false) w (h.keep kw) hr hg hF, fun w kw => ?_⟩
          · rw [ptO_any V T g (b, q, false) 9221120237041090561 9218868437227405313]
            by_cases hn : isNaN ((ptO V T g (b, q, false) 9218868437227405313).getD 0)
            · exact .inl ⟨hn, hn⟩
            · exact .inr ⟨hn, rfl⟩
          · rw [ptO_any V T g (b, q, false) 9221120237041090561 9218868437227405313]
            exact rPoint_ok a a2 c c2 V T g b q w (h.keep kw) hr hg hF
        · have hF2 : decide (b = 0 ∧ q = -1) = true := hF
          rw [decide_eq_true_eq] at hF2
          obtain ⟨rfl, rfl⟩ := hF2
          have hs : ptO V T g (0, -1, true) 9221120237041090561 = some 9221120237041090561 := by
            have he : ptO V T g (0, -1, true) 9221120237041090561 = fnd (kys (V.getD g [])) (kts (T.getD g [])) (0, -1, true) [9221120237041090561] := rfl
            rw [he]
            exact fnd_skip (i := 0) (by simp) (fun j hj => by omega) (by rw [show ([9221120237041090561] : List Nat).getD 0 0 = 9221120237041090561 from rfl, cd_nan (by decide)]; exact decide_eq_true rfl)
          refine ⟨9221120237041090561, 9218868437227405313, 0, by omega, by omega, .inl ⟨by decide, by decide⟩, fun w kw => ?_, fun w kw => rPoint_lost a a2 c c2 V T g 0 (-1) w (h.keep kw) hr hg hF⟩
          have := Point_ok a a2 c c2 V T g (0, -1, true) w (h.keep kw) hr hg hF
          rw [hs] at this
          exact this
    · exact ⟨0, 0, 2, by omega, by omega, .inr ⟨z0, rfl⟩, fun w kw => Point_far a a2 c c2 V T f (b, q, lo) w (h.keep kw) hr hf, fun w kw => rPoint_far a a2 c c2 V T f b q lo w (h.keep kw) hr hf⟩
theorem coA_len (V : List (List Nat)) (T : List (List Int)) (xs : List Nat) : (coA V T xs).length ≤ 65536 := by
  unfold coA; split
  · rename_i h
    rw [cds_len]
    have := (right_parts h.1).2.1
    omega
  · simp
set_option maxRecDepth 100000 in
set_option maxHeartbeats 2000000 in
theorem law_codes (a a2 ax : Option Addr) (c c2 cx : Nat) (V : List (List Nat)) (T : List (List Int)) (xs : List Nat) (f : Int) (k : Cd) (w : World) (h : Bn w a a2 V T) (hrx : RdF w ax xs) (hwx : W64 xs) (hnx : xs.length ≤ 17592186044416) :
    Calls Try.prog 3 #[BV a V.length c a2 T.length c2, .slice ax xs.length cx, .int .i64 f, CV k] w fun e w' => e = .returned (.bool true) ∧ Keep w w' := by
  obtain ⟨X, Y, E, hX, hY, hXY, hP6, hP7⟩ := points_two a a2 c c2 V T f k w h
  obtain ⟨b, q, lo⟩ := k
  obtain ⟨w1, hw1, k1, t1, s1⟩ := boxed w #[.slice a V.length c, .slice a2 T.length c2] 25
  obtain ⟨w2, hw2, k2, t2, s2⟩ := boxed w1 #[.int .i64 b, .int .i64 q, .bool lo] 28
  rw [s1] at t2
  have k12 := k1.trans k2
  have q1 := k2.at t1
  obtain ⟨x0, x1, f0, f1⟩ := cells2 q1
  obtain ⟨m0, m1, m2, n0, n1, n2⟩ := cells3 t2
  have hC4 := Codes_any a a2 ax c c2 cx V T xs w2 (h.keep k12) (hrx.keep k12) hwx hnx
  have hC5 := fun wx (kx : Keep w2 wx) => rCodes_any a a2 ax c c2 cx V T xs wx (h.keep (k12.trans kx)) (hrx.keep (k12.trans kx)) hwx hnx
  have h8 := fun wx (kx : Keep w2 wx) => Right_any a a2 c c2 V T wx (h.keep (k12.trans kx))
  have h9 := fun wx (kx : Keep w2 wx) => rRight_any a a2 c c2 V T wx (h.keep (k12.trans kx))
  have hcl := coA_len V T xs
  have h10 := fun aa cc aa2 cc2 wx (u1 : RdC wx aa (coA V T xs)) (u2 : RdC wx aa2 (coA V T xs)) => codes_eq aa aa2 cc cc2 (coA V T xs) wx hcl u1 u2
  have h11 := fun wx => rNaN_any Y wx hY
  have hb := f64bits X
  generalize rightB V T = R at *
  generalize coA V T xs = CA at *
  generalize coE V T xs.length = CE at *
  clear s2 h hrx hwx
  go_enter Try.func3, Try.ntmps3
  go_wp2_with (first
    | rw [hw1]
    | rw [hw2]
    | (go_at_call 4; refine hC4.mono ?_; rintro e w3 ⟨la, lc, rfl, hlc, hrd3, k3⟩; have y0 := k3.cell x0; have y1 := k3.cell x1; have y2 := k3.cell m0; have y3 := k3.cell m1; have y4 := k3.cell m2)
    | (go_at_call 5; refine (hC5 _ k3).mono ?_; rintro e w4 ⟨ka, kc, rfl, hkc, hrd4, k4⟩; have z0 := k4.cell y0; have z1 := k4.cell y1; have z2 := k4.cell y2; have z3 := k4.cell y3; have z4 := k4.cell y4)
    | (go_at_call 6; refine (hP6 _ (k12.trans (k3.trans k4))).mono ?_; rintro e w5 ⟨rfl, k5⟩; have i0 := k5.cell z0; have i1 := k5.cell z1; have i2 := k5.cell z2; have i3 := k5.cell z3; have i4 := k5.cell z4)
    | (go_at_call 7; refine (hP7 _ (k12.trans (k3.trans (k4.trans k5)))).mono ?_; rintro e w6 ⟨rfl, k6⟩; have j0 := k6.cell i0; have j1 := k6.cell i1; have j2 := k6.cell i2; have j3 := k6.cell i3; have j4 := k6.cell i4))
  have K6 := k3.trans (k4.trans (k5.trans k6))
  have rd6a := hrd3.keep (k4.trans (k5.trans k6))
  have rd6b := hrd4.keep (k5.trans k6)
  clear y0 y1 y2 y3 y4 z0 z1 z2 z3 z4 i0 i1 i2 i3 i4 hC4 hC5 hP6 hP7 hw1 hw2
  refine region_keep (Keep.refl w6) (by kernel_rfl) (by kernel_rfl) ?_
  repeat
    with_reducible refine wpQuiet_step ?_
    intro K hK
    go_simp
    first
      | (with_reducible refine hK _ ?_; clear hK K)
      | (apply Exists.intro
         with_reducible refine ⟨fun wx hC => ?_, hK _ ?_⟩
         · first
             | with_reducible rfl
             | with_reducible exact (h8 wx (K6.trans hC)).mono fun e w'' h => ⟨h.1, hC.trans h.2⟩
             | with_reducible exact (h9 wx (K6.trans hC)).mono fun e w'' h => ⟨h.1, hC.trans h.2⟩
             | with_reducible exact (h10 la lc ka kc wx (rd6a.keep hC) (rd6b.keep hC)).mono fun e w'' h => ⟨h.1, hC.trans h.2⟩
             | (have y0 := hC.cell j0; have y1 := hC.cell j1; have y2 := hC.cell j2; have y3 := hC.cell j3; have y4 := hC.cell j4; go_simp; with_reducible rfl)
         clear hK K)
  with_reducible refine wpQuiet_nil ?_
  intro w9 k9
  have K9 := k12.trans (K6.trans k9)
  rcases hXY with ⟨hn, hn2⟩ | ⟨hn, rfl⟩
  · have ho : (FloatKind.f64.format.order X X != some .eq) = true := by rw [ord_nan (x := X) (y := X) (.inl hn2)]; rfl
    rw [decide_eq_true hn] at h11
    clear hn hn2 h8 h9 h10
    go_simp
    go_wp2_with (go_at_call 11; refine (h11 _).mono ?_; rintro e wz ⟨rfl, hz⟩; rw [hz]; clear hz)
    go_ret
    exact ⟨ret_bool (by first | rfl | assumption), K9⟩
  · rw [decide_eq_false hn] at h11
    clear hn h8 h9 h10
    go_simp
    go_wp2_with (go_at_call 11; refine (h11 _).mono ?_; rintro e wz ⟨rfl, hz⟩; rw [hz]; clear hz)
    go_ret
    exact ⟨ret_bool (by first | rfl | simp), K9⟩
end Go.Proofs.Ytjbiknnichfajaa
