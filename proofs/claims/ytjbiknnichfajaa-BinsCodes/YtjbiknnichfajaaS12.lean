import Derived.Test.YtjbiknnichfajaaS11
set_option linter.unusedVariables false
set_option linter.unusedSimpArgs false
namespace Go.Proofs.Ytjbiknnichfajaa
open Go.RowKit Go.Shelf
attribute [local go_sem high] run_eqlC run_neqC run_guardC
/-- The numbers that are tried for a code of no category. -/
def tryF (N : Nat) (l : List Nat) (p : Nat) : List Nat := (if p < l.length then l.getD p 0 :: (if pvE (key (l.getD p 0)) = 0 then [pvB N (key (l.getD p 0))] else []) else []) ++ (if 0 < p then (if nxE (key (l.getD (p - 1) 0)) = 0 then [nxB N (key (l.getD (p - 1) 0))] else []) else [])
def VF (l : List Nat) : List Value := l.map (fun x => Value.float .f64 x)
def VU (l : List Nat) : List Value := l.map (fun x => Value.int .u64 (x : Nat))
theorem newsF (W : World) (x : Nat) : ∀ j u, (VF [x])[j]? = some u → (W.alloc (Obj.cells #[.float .f64 x] 33)).cell? ((⟨W.heap.size, 0, none⟩ : Addr).add j) = some u := by
  intro j u hj
  match j, hj with
  | 0, hj => simp [VF] at hj; subst hj; show (W.alloc _).cell? ⟨W.heap.size, 0, none⟩ = _; rw [cell_of_row _ _ _ _ 33 (0, 0) (heap_alloc_new W _)]; rfl
  | j + 1, hj => simp [VF] at hj
theorem newsU (W : World) (x : Nat) : ∀ j u, (VU [x])[j]? = some u → (W.alloc (Obj.cells #[.int .u64 (x : Nat)] 36)).cell? ((⟨W.heap.size, 0, none⟩ : Addr).add j) = some u := by
  intro j u hj
  match j, hj with
  | 0, hj => simp [VU] at hj; subst hj; show (W.alloc _).cell? ⟨W.heap.size, 0, none⟩ = _; rw [cell_of_row _ _ _ _ 36 (0, 0) (heap_alloc_new W _)]; rfl
  | j + 1, hj => simp [VU] at hj
theorem VF_one (l : List Nat) : ∀ u ∈ VF l, u.oneCell' = true := by intro u hu; obtain ⟨_, _, rfl⟩ := List.mem_map.1 hu; rfl
theorem VU_one (l : List Nat) : ∀ u ∈ VU l, u.oneCell' = true := by intro u hu; obtain ⟨_, _, rfl⟩ := List.mem_map.1 hu; rfl
theorem rdF_one (W : World) (x : Nat) : RdF (W.alloc (Obj.cells #[.float .f64 x] 33)) (some ⟨W.heap.size, 0, none⟩) [x] := by
  intro j hj
  simp at hj
  subst hj
  exact ⟨_, _, rfl, newsF W x 0 _ rfl⟩
theorem own_rdf {B : Nat} {w : World} {v : Value} {l : List Nat} (h : w.ownsRow B 33 1 v l.length (VF l)) : ∃ a c, v = .slice a l.length c ∧ l.length ≤ c ∧ RdF w a l := by
  obtain ⟨a, c, h1, h2, h3⟩ := own_at h
  exact ⟨a, c, h1, h2, fun j hj => h3 j _ (by simp [VF, List.getD, hj])⟩
/-- Bits that can be read. -/
def RdU (w : World) (a : Option Addr) (l : List Nat) : Prop := ∀ j, j < l.length → ∃ b o, a = some ⟨b, o, none⟩ ∧ w.cell? ⟨b, o + j, none⟩ = some (.int .u64 (l.getD j 0 : Nat))
theorem RdU.keep {w w' : World} {a : Option Addr} {l : List Nat} (h : RdU w a l) (k : Keep w w') : RdU w' a l := by
  intro j hj
  obtain ⟨b, o, e, hc⟩ := h j hj
  exact ⟨b, o, e, k.cell hc⟩
theorem own_rdu {B : Nat} {w : World} {v : Value} {l : List Nat} (h : w.ownsRow B 36 1 v l.length (VU l)) : ∃ a c, v = .slice a l.length c ∧ l.length ≤ c ∧ RdU w a l := by
  obtain ⟨a, c, h1, h2, h3⟩ := own_at h
  exact ⟨a, c, h1, h2, fun j hj => h3 j _ (by simp [VU, List.getD, hj])⟩
set_option maxRecDepth 100000 in
set_option maxHeartbeats 1000000 in
theorem points_lost (a a2 : Option Addr) (c c2 : Nat) (l : List Nat) (t : List Int) (w : World) (h : Sc w a a2 l t) (b q : Int) :
    Calls Try.prog 18 #[SV a l.length c a2 t.length c2, .agg #[.int .i64 b, .int .i64 q, .bool true]] w fun e w' => ∃ a' c', e = .returned (.slice a' ([9221120237041090561]).length c') ∧ ([9221120237041090561]).length ≤ c' ∧ RdF w' a' ([9221120237041090561]) ∧ Keep w w' := by
  obtain ⟨w1, hw1, k1, t1, s1⟩ := boxed w #[.slice a l.length c, .slice a2 t.length c2] 46
  obtain ⟨w2, hw2, k2, t2, s2⟩ := boxed w1 #[.int .i64 b, .int .i64 q, .bool true] 28
  rw [s1] at t2
  have k12 := k1.trans k2
  have q1 := k2.at t1
  obtain ⟨c0, c1, f0, f1⟩ := cells2 q1
  obtain ⟨d0, d1, d2, g0, g1, g2⟩ := cells3 t2
  clear s2
  have hN := nan_any w2
  clear h
  go_enter Try.func18, Try.ntmps18
  go_wp2_with (first
    | rw [hw1]
    | rw [hw2]
    | (go_at_call 29; refine hN.mono ?_; rintro e w3 ⟨rfl, rfl⟩))
  go_ret
  exact ⟨_, _, rfl, Nat.le_refl _, rdF_one _ _, k12.alloc _⟩
set_option maxRecDepth 100000 in
set_option maxHeartbeats 1000000 in
theorem points_cat (a a2 : Option Addr) (c c2 : Nat) (l : List Nat) (t : List Int) (w : World) (h : Sc w a a2 l t) (b : Int) (q : Nat) (hq : q < t.length) :
    Calls Try.prog 18 #[SV a l.length c a2 t.length c2, .agg #[.int .i64 b, .int .i64 (q : Nat), .bool false]] w fun e w' => ∃ a' c', e = .returned (.slice a' ([fl (t.getD q 0)]).length c') ∧ ([fl (t.getD q 0)]).length ≤ c' ∧ RdF w' a' ([fl (t.getD q 0)]) ∧ Keep w w' := by
  obtain ⟨w1, hw1, k1, t1, s1⟩ := boxed w #[.slice a l.length c, .slice a2 t.length c2] 46
  obtain ⟨w2, hw2, k2, t2, s2⟩ := boxed w1 #[.int .i64 b, .int .i64 (q : Nat), .bool false] 28
  rw [s1] at t2
  have k12 := k1.trans k2
  have q1 := k2.at t1
  obtain ⟨c0, c1, f0, f1⟩ := cells2 q1
  obtain ⟨d0, d1, d2, g0, g1, g2⟩ := cells3 t2
  clear s2
  obtain ⟨b3, o3, rfl, cv⟩ := (h.rt.keep k12) q hq
  have hqc : (q : Int) < (t.length : Int) := by omega
  have e1 : ((q : Int) != -1) = true := by rw [bne_iff_ne]; omega
  have hnt := h.nt
  clear h
  show Calls Try.prog 18 _ w fun e w' => ∃ a' c', e = .returned (.slice a' ([floatOfInt FloatKind.f64 (t.getD q 0)]).length c') ∧ ([floatOfInt FloatKind.f64 (t.getD q 0)]).length ≤ c' ∧ RdF w' a' ([floatOfInt FloatKind.f64 (t.getD q 0)]) ∧ Keep w w'
  generalize t.getD q 0 = v at *
  go_enter Try.func18, Try.ntmps18
  go_wp2_with (first
    | rw [hw1]
    | rw [hw2])
  go_ret
  exact ⟨_, _, rfl, Nat.le_refl _, rdF_one _ _, k12.alloc _⟩
set_option maxRecDepth 100000 in
set_option maxHeartbeats 1000000 in
theorem points_none (a a2 : Option Addr) (c c2 : Nat) (l : List Nat) (t : List Int) (w : World) (h : Sc w a a2 l t) (b : Int) (hl : l.length = 0) :
    Calls Try.prog 18 #[SV a l.length c a2 t.length c2, .agg #[.int .i64 b, .int .i64 (-1), .bool false]] w fun e w' => ∃ a' c', e = .returned (.slice a' ([0]).length c') ∧ ([0]).length ≤ c' ∧ RdF w' a' ([0]) ∧ Keep w w' := by
  obtain ⟨w1, hw1, k1, t1, s1⟩ := boxed w #[.slice a l.length c, .slice a2 t.length c2] 46
  obtain ⟨w2, hw2, k2, t2, s2⟩ := boxed w1 #[.int .i64 b, .int .i64 (-1), .bool false] 28
  rw [s1] at t2
  have k12 := k1.trans k2
  have q1 := k2.at t1
  obtain ⟨c0, c1, f0, f1⟩ := cells2 q1
  obtain ⟨d0, d1, d2, g0, g1, g2⟩ := cells3 t2
  clear s2
  have e1 : ((l.length : Int) == 0) = true := by rw [beq_iff_eq]; omega
  clear h hl
  go_enter Try.func18, Try.ntmps18
  go_wp2_with (first
    | rw [hw1]
    | rw [hw2])
  go_ret
  exact ⟨_, _, rfl, Nat.le_refl _, rdF_one _ _, k12.alloc _⟩
set_option maxRecDepth 100000 in
set_option maxHeartbeats 1000000 in
theorem pt_iypy (a a2 : Option Addr) (c c2 : Nat) (l : List Nat) (t : List Int) (w : World) (h : Sc w a a2 l t) (p : Nat) (hl : 0 < l.length) (hp : p < l.length) (hpv : (pvE (key (l.getD p 0)) == 0) = true) (h0 : 0 < p) (hnx : (nxE (key (l.getD (p - 1) 0)) == 0) = true)  :
    Calls Try.prog 18 #[SV a l.length c a2 t.length c2, .agg #[.int .i64 (p : Nat), .int .i64 (-1), .bool false]] w fun e w' => ∃ a' c', e = .returned (.slice a' (tryF 9221120237041090561 l p).length c') ∧ (tryF 9221120237041090561 l p).length ≤ c' ∧ RdF w' a' (tryF 9221120237041090561 l p) ∧ Keep w w' := by
  obtain ⟨w1, hw1, k1, t1, s1⟩ := boxed w #[.slice a l.length c, .slice a2 t.length c2] 46
  obtain ⟨w2, hw2, k2, t2, s2⟩ := boxed w1 #[.int .i64 (p : Nat), .int .i64 (-1), .bool false] 28
  rw [s1] at t2
  have k12 := k1.trans k2
  have q1 := k2.at t1
  obtain ⟨c0, c1, f0, f1⟩ := cells2 q1
  obtain ⟨d0, d1, d2, g0, g1, g2⟩ := cells3 t2
  clear s2
  have hnl := h.nl
  have hwl := h.wl
  have hrl := h.rl
  clear h
  have e1 : ((l.length : Int) == 0) = false := by rw [beq_eq_false_iff_ne]; omega
  have HL : Hid (tryF 9221120237041090561 l p = [l.getD p 0, pvB 9221120237041090561 (key (l.getD p 0)), nxB 9221120237041090561 (key (l.getD (p - 1) 0))]) := by
    show _ = _
    unfold tryF
    rw [if_pos hp, if_pos (beq_iff_eq.1 hpv)]
    rw [if_pos h0, if_pos (beq_iff_eq.1 hnx)]
    rfl
  rw [HL.out]
  clear HL
  have hP := fun wx => isPlace26 a l.length c (p : Int) wx
  rw [show decide (0 ≤ (p : Int) ∧ (p : Int) < (l.length : Int)) = true by simp; omega] at hP
  have hQ := fun wx => isPlace26 a l.length c ((p : Int) - 1) wx
  rw [show decide (0 ≤ (p : Int) - 1 ∧ (p : Int) - 1 < (l.length : Int)) = true by simp; omega] at hQ
  obtain ⟨b3, o3, e3, cv⟩ := (hrl.keep k12) p hp
  have hpc : (p : Int) < (l.length : Int) := by omega
  have hPv := fun wx => Prev_any (l.getD p 0) wx (hwl p hp)
  generalize hy : l.getD p 0 = y at *
  generalize pvE (key y) = pe at *
  generalize pvB 9221120237041090561 (key y) = pv at *
  obtain ⟨r, hr⟩ : ∃ r, p = r + 1 := ⟨p - 1, by omega⟩
  have hri : (p : Int) - 1 = (r : Int) := by omega
  rw [show p - 1 = r by omega] at *
  have hrl2 : r < l.length := by omega
  have hrc : (r : Int) < (l.length : Int) := by omega
  obtain ⟨b4, o4, e4, cz⟩ := (hrl.keep k12) r hrl2
  have hNx := fun wx => Next_any (l.getD r 0) wx (hwl r hrl2)
  generalize l.getD r 0 = z at *
  generalize nxE (key z) = ne at *
  generalize nxB 9221120237041090561 (key z) = nx at *
  rw [hri] at hQ
  clear hr
  subst e3
  simp only [Option.some.injEq, Addr.mk.injEq, and_true] at e4
  obtain ⟨rfl, rfl⟩ := e4
  clear hwl hrl hy
  go_enter Try.func18, Try.ntmps18
  go_wp2_with (first
    | rw [hw1]
    | rw [hw2]
    | (go_at_call 30; have _t := done1; refine (hQ _).mono ?_; rintro e wz ⟨rfl, hz⟩; rw [hz]; clear hz)
    | (go_at_call 30; refine (hP _).mono ?_; rintro e wz ⟨rfl, hz⟩; rw [hz]; clear hz; have done1 : True := trivial)
    | (go_at_call 31; refine (hPv _).mono ?_; rintro e wz ⟨rfl, hz⟩; rw [hz]; clear hz)
    | (go_at_call 32; refine (hNx _).mono ?_; rintro e wz ⟨rfl, hz⟩; rw [hz]; clear hz)
    | (at_builtin; refine wpList_appG Try.underlying26 i33 rfl (by decide) (by decide) w2.heap.size _ rfl _ _ rfl 2 (VF [y, pv]) (VF [nx]) _ rfl (own_keep o6 ((Keep.refl w6).alloc _)) (k6.alloc (Obj.cells #[.float .f64 nx] 33)).le ⟨w6.heap.size, 0, none⟩ 1 rfl rfl (newsF w6 nx) (VF_one _) (by omega) ?_; intro v7 w7 o7 g7; have k7 := keep_grown (k6.alloc (Obj.cells #[.float .f64 nx] 33)) (own_keep o6 ((Keep.refl w6).alloc _)) g7; have c02 := k7.cell c0; have c12 := k7.cell c1; have d02 := k7.cell d0; have d12 := k7.cell d1; have d22 := k7.cell d2; have cv2 := k7.cell cv; have cz2 := k7.cell cz)
    | (at_builtin; refine wpList_appG Try.underlying26 i33 rfl (by decide) (by decide) w2.heap.size _ rfl _ _ rfl 1 (VF [y]) (VF [pv]) _ rfl (own_keep o5 ((Keep.refl w5).alloc _)) (k5.alloc (Obj.cells #[.float .f64 pv] 33)).le ⟨w5.heap.size, 0, none⟩ 1 rfl rfl (newsF w5 pv) (VF_one _) (by omega) ?_; intro v6 w6 o6 g6; have k6 := keep_grown (k5.alloc (Obj.cells #[.float .f64 pv] 33)) (own_keep o5 ((Keep.refl w5).alloc _)) g6; have c01 := k6.cell c0; have c11 := k6.cell c1; have d01 := k6.cell d0; have d11 := k6.cell d1; have d21 := k6.cell d2; have cv1 := k6.cell cv; have cz1 := k6.cell cz)
    | (at_builtin; refine wpList_appG Try.underlying26 i33 rfl (by decide) (by decide) w2.heap.size _ rfl _ _ rfl 0 (VF []) (VF [y]) _ rfl (own_nil 33 1 w2.heap.size _) ((Keep.refl w2).alloc (Obj.cells #[.float .f64 y] 33)).le ⟨w2.heap.size, 0, none⟩ 1 rfl rfl (newsF w2 y) (VF_one _) (by omega) ?_; intro v5 w5 o5 g5; have k5 := keep_grown ((Keep.refl w2).alloc (Obj.cells #[.float .f64 y] 33)) (own_nil 33 1 w2.heap.size _) g5; have c00 := k5.cell c0; have c10 := k5.cell c1; have d00 := k5.cell d0; have d10 := k5.cell d1; have d20 := k5.cell d2; have cv0 := k5.cell cv; have cz0 := k5.cell cz))
  have ow : w7.ownsRow w2.heap.size 33 1 v7 ([y, pv, nx] : List Nat).length (VF [y, pv, nx]) := o7
  obtain ⟨a', c', rfl, h1, h2⟩ := own_rdf ow
  go_ret
  exact ⟨a', c', rfl, h1, h2, k12.trans k7⟩
set_option maxRecDepth 100000 in
set_option maxHeartbeats 1000000 in
theorem pt_iypn (a a2 : Option Addr) (c c2 : Nat) (l : List Nat) (t : List Int) (w : World) (h : Sc w a a2 l t) (p : Nat) (hl : 0 < l.length) (hp : p < l.length) (hpv : (pvE (key (l.getD p 0)) == 0) = true) (h0 : 0 < p) (hnx : (nxE (key (l.getD (p - 1) 0)) == 0) = false)  :
    Calls Try.prog 18 #[SV a l.length c a2 t.length c2, .agg #[.int .i64 (p : Nat), .int .i64 (-1), .bool false]] w fun e w' => ∃ a' c', e = .returned (.slice a' (tryF 9221120237041090561 l p).length c') ∧ (tryF 9221120237041090561 l p).length ≤ c' ∧ RdF w' a' (tryF 9221120237041090561 l p) ∧ Keep w w' := by
  obtain ⟨w1, hw1, k1, t1, s1⟩ := boxed w #[.slice a l.length c, .slice a2 t.length c2] 46
  obtain ⟨w2, hw2, k2, t2, s2⟩ := boxed w1 #[.int .i64 (p : Nat), .int .i64 (-1), .bool false] 28
  rw [s1] at t2
  have k12 := k1.trans k2
  have q1 := k2.at t1
  obtain ⟨c0, c1, f0, f1⟩ := cells2 q1
  obtain ⟨d0, d1, d2, g0, g1, g2⟩ := cells3 t2
  clear s2
  have hnl := h.nl
  have hwl := h.wl
  have hrl := h.rl
  clear h
  have e1 : ((l.length : Int) == 0) = false := by rw [beq_eq_false_iff_ne]; omega
  have HL : Hid (tryF 9221120237041090561 l p = [l.getD p 0, pvB 9221120237041090561 (key (l.getD p 0))]) := by
    show _ = _
    unfold tryF
    rw [if_pos hp, if_pos (beq_iff_eq.1 hpv)]
    rw [if_pos h0, if_neg (beq_eq_false_iff_ne.1 hnx)]
    rfl
  rw [HL.out]
  clear HL
  have hP := fun wx => isPlace26 a l.length c (p : Int) wx
  rw [show decide (0 ≤ (p : Int) ∧ (p : Int) < (l.length : Int)) = true by simp; omega] at hP
  have hQ := fun wx => isPlace26 a l.length c ((p : Int) - 1) wx
  rw [show decide (0 ≤ (p : Int) - 1 ∧ (p : Int) - 1 < (l.length : Int)) = true by simp; omega] at hQ
  obtain ⟨b3, o3, e3, cv⟩ := (hrl.keep k12) p hp
  have hpc : (p : Int) < (l.length : Int) := by omega
  have hPv := fun wx => Prev_any (l.getD p 0) wx (hwl p hp)
  generalize hy : l.getD p 0 = y at *
  generalize pvE (key y) = pe at *
  generalize pvB 9221120237041090561 (key y) = pv at *
  obtain ⟨r, hr⟩ : ∃ r, p = r + 1 := ⟨p - 1, by omega⟩
  have hri : (p : Int) - 1 = (r : Int) := by omega
  rw [show p - 1 = r by omega] at *
  have hrl2 : r < l.length := by omega
  have hrc : (r : Int) < (l.length : Int) := by omega
  obtain ⟨b4, o4, e4, cz⟩ := (hrl.keep k12) r hrl2
  have hNx := fun wx => Next_any (l.getD r 0) wx (hwl r hrl2)
  generalize l.getD r 0 = z at *
  generalize nxE (key z) = ne at *
  generalize nxB 9221120237041090561 (key z) = nx at *
  rw [hri] at hQ
  clear hr
  subst e3
  simp only [Option.some.injEq, Addr.mk.injEq, and_true] at e4
  obtain ⟨rfl, rfl⟩ := e4
  clear hwl hrl hy
  go_enter Try.func18, Try.ntmps18
  go_wp2_with (first
    | rw [hw1]
    | rw [hw2]
    | (go_at_call 30; have _t := done1; refine (hQ _).mono ?_; rintro e wz ⟨rfl, hz⟩; rw [hz]; clear hz)
    | (go_at_call 30; refine (hP _).mono ?_; rintro e wz ⟨rfl, hz⟩; rw [hz]; clear hz; have done1 : True := trivial)
    | (go_at_call 31; refine (hPv _).mono ?_; rintro e wz ⟨rfl, hz⟩; rw [hz]; clear hz)
    | (go_at_call 32; refine (hNx _).mono ?_; rintro e wz ⟨rfl, hz⟩; rw [hz]; clear hz)
    | (at_builtin; refine wpList_appG Try.underlying26 i33 rfl (by decide) (by decide) w2.heap.size _ rfl _ _ rfl 1 (VF [y]) (VF [pv]) _ rfl (own_keep o5 ((Keep.refl w5).alloc _)) (k5.alloc (Obj.cells #[.float .f64 pv] 33)).le ⟨w5.heap.size, 0, none⟩ 1 rfl rfl (newsF w5 pv) (VF_one _) (by omega) ?_; intro v6 w6 o6 g6; have k6 := keep_grown (k5.alloc (Obj.cells #[.float .f64 pv] 33)) (own_keep o5 ((Keep.refl w5).alloc _)) g6; have c01 := k6.cell c0; have c11 := k6.cell c1; have d01 := k6.cell d0; have d11 := k6.cell d1; have d21 := k6.cell d2; have cv1 := k6.cell cv; have cz1 := k6.cell cz)
    | (at_builtin; refine wpList_appG Try.underlying26 i33 rfl (by decide) (by decide) w2.heap.size _ rfl _ _ rfl 0 (VF []) (VF [y]) _ rfl (own_nil 33 1 w2.heap.size _) ((Keep.refl w2).alloc (Obj.cells #[.float .f64 y] 33)).le ⟨w2.heap.size, 0, none⟩ 1 rfl rfl (newsF w2 y) (VF_one _) (by omega) ?_; intro v5 w5 o5 g5; have k5 := keep_grown ((Keep.refl w2).alloc (Obj.cells #[.float .f64 y] 33)) (own_nil 33 1 w2.heap.size _) g5; have c00 := k5.cell c0; have c10 := k5.cell c1; have d00 := k5.cell d0; have d10 := k5.cell d1; have d20 := k5.cell d2; have cv0 := k5.cell cv; have cz0 := k5.cell cz))
  have ow : w6.ownsRow w2.heap.size 33 1 v6 ([y, pv] : List Nat).length (VF [y, pv]) := o6
  obtain ⟨a', c', rfl, h1, h2⟩ := own_rdf ow
  go_ret
  exact ⟨a', c', rfl, h1, h2, k12.trans k6⟩
set_option maxRecDepth 100000 in
set_option maxHeartbeats 1000000 in
theorem pt_iyz (a a2 : Option Addr) (c c2 : Nat) (l : List Nat) (t : List Int) (w : World) (h : Sc w a a2 l t) (hl : 0 < l.length) (hpv : (pvE (key (l.getD 0 0)) == 0) = true)  :
    Calls Try.prog 18 #[SV a l.length c a2 t.length c2, .agg #[.int .i64 0, .int .i64 (-1), .bool false]] w fun e w' => ∃ a' c', e = .returned (.slice a' (tryF 9221120237041090561 l 0).length c') ∧ (tryF 9221120237041090561 l 0).length ≤ c' ∧ RdF w' a' (tryF 9221120237041090561 l 0) ∧ Keep w w' := by
  obtain ⟨w1, hw1, k1, t1, s1⟩ := boxed w #[.slice a l.length c, .slice a2 t.length c2] 46
  obtain ⟨w2, hw2, k2, t2, s2⟩ := boxed w1 #[.int .i64 0, .int .i64 (-1), .bool false] 28
  rw [s1] at t2
  have k12 := k1.trans k2
  have q1 := k2.at t1
  obtain ⟨c0, c1, f0, f1⟩ := cells2 q1
  obtain ⟨d0, d1, d2, g0, g1, g2⟩ := cells3 t2
  clear s2
  have hnl := h.nl
  have hwl := h.wl
  have hrl := h.rl
  clear h
  have e1 : ((l.length : Int) == 0) = false := by rw [beq_eq_false_iff_ne]; omega
  have HL : Hid (tryF 9221120237041090561 l 0 = [l.getD 0 0, pvB 9221120237041090561 (key (l.getD 0 0))]) := by
    show _ = _
    unfold tryF
    rw [if_pos hl, if_pos (beq_iff_eq.1 hpv)]
    rw [if_neg (by omega)]
    rfl
  rw [HL.out]
  clear HL
  have hP := fun wx => isPlace26 a l.length c 0 wx
  rw [show decide (0 ≤ (0 : Int) ∧ (0 : Int) < (l.length : Int)) = true by rw [decide_eq_true_eq]; omega] at hP
  have hQ := fun wx => isPlace26 a l.length c (-1) wx
  rw [show decide (0 ≤ (-1 : Int) ∧ (-1 : Int) < (l.length : Int)) = false by rw [decide_eq_false_iff_not]; omega] at hQ
  obtain ⟨b3, o3, e3, cv⟩ := (hrl.keep k12) 0 hl
  rw [Nat.add_zero] at cv
  have hpc : (0 : Int) < (l.length : Int) := by omega
  have hPv := fun wx => Prev_any (l.getD 0 0) wx (hwl 0 hl)
  generalize hy : l.getD 0 0 = y at *
  generalize pvE (key y) = pe at *
  generalize pvB 9221120237041090561 (key y) = pv at *
  subst e3
  clear hwl hrl hy
  go_enter Try.func18, Try.ntmps18
  go_wp2_with (first
    | rw [hw1]
    | rw [hw2]
    | (go_at_call 30; have _t := done1; refine (hQ _).mono ?_; rintro e wz ⟨rfl, hz⟩; rw [hz]; clear hz)
    | (go_at_call 30; refine (hP _).mono ?_; rintro e wz ⟨rfl, hz⟩; rw [hz]; clear hz; have done1 : True := trivial)
    | (go_at_call 31; refine (hPv _).mono ?_; rintro e wz ⟨rfl, hz⟩; rw [hz]; clear hz)
    | (at_builtin; refine wpList_appG Try.underlying26 i33 rfl (by decide) (by decide) w2.heap.size _ rfl _ _ rfl 1 (VF [y]) (VF [pv]) _ rfl (own_keep o5 ((Keep.refl w5).alloc _)) (k5.alloc (Obj.cells #[.float .f64 pv] 33)).le ⟨w5.heap.size, 0, none⟩ 1 rfl rfl (newsF w5 pv) (VF_one _) (by omega) ?_; intro v6 w6 o6 g6; have k6 := keep_grown (k5.alloc (Obj.cells #[.float .f64 pv] 33)) (own_keep o5 ((Keep.refl w5).alloc _)) g6; have c01 := k6.cell c0; have c11 := k6.cell c1; have d01 := k6.cell d0; have d11 := k6.cell d1; have d21 := k6.cell d2; have cv1 := k6.cell cv)
    | (at_builtin; refine wpList_appG Try.underlying26 i33 rfl (by decide) (by decide) w2.heap.size _ rfl _ _ rfl 0 (VF []) (VF [y]) _ rfl (own_nil 33 1 w2.heap.size _) ((Keep.refl w2).alloc (Obj.cells #[.float .f64 y] 33)).le ⟨w2.heap.size, 0, none⟩ 1 rfl rfl (newsF w2 y) (VF_one _) (by omega) ?_; intro v5 w5 o5 g5; have k5 := keep_grown ((Keep.refl w2).alloc (Obj.cells #[.float .f64 y] 33)) (own_nil 33 1 w2.heap.size _) g5; have c00 := k5.cell c0; have c10 := k5.cell c1; have d00 := k5.cell d0; have d10 := k5.cell d1; have d20 := k5.cell d2; have cv0 := k5.cell cv))
  have ow : w6.ownsRow w2.heap.size 33 1 v6 ([y, pv] : List Nat).length (VF [y, pv]) := o6
  obtain ⟨a', c', rfl, h1, h2⟩ := own_rdf ow
  go_ret
  exact ⟨a', c', rfl, h1, h2, k12.trans k6⟩
set_option maxRecDepth 100000 in
set_option maxHeartbeats 1000000 in
theorem pt_inpy (a a2 : Option Addr) (c c2 : Nat) (l : List Nat) (t : List Int) (w : World) (h : Sc w a a2 l t) (p : Nat) (hl : 0 < l.length) (hp : p < l.length) (hpv : (pvE (key (l.getD p 0)) == 0) = false) (h0 : 0 < p) (hnx : (nxE (key (l.getD (p - 1) 0)) == 0) = true)  :
    Calls Try.prog 18 #[SV a l.length c a2 t.length c2, .agg #[.int .i64 (p : Nat), .int .i64 (-1), .bool false]] w fun e w' => ∃ a' c', e = .returned (.slice a' (tryF 9221120237041090561 l p).length c') ∧ (tryF 9221120237041090561 l p).length ≤ c' ∧ RdF w' a' (tryF 9221120237041090561 l p) ∧ Keep w w' := by
  obtain ⟨w1, hw1, k1, t1, s1⟩ := boxed w #[.slice a l.length c, .slice a2 t.length c2] 46
  obtain ⟨w2, hw2, k2, t2, s2⟩ := boxed w1 #[.int .i64 (p : Nat), .int .i64 (-1), .bool false] 28
  rw [s1] at t2
  have k12 := k1.trans k2
  have q1 := k2.at t1
  obtain ⟨c0, c1, f0, f1⟩ := cells2 q1
  obtain ⟨d0, d1, d2, g0, g1, g2⟩ := cells3 t2
  clear s2
  have hnl := h.nl
  have hwl := h.wl
  have hrl := h.rl
  clear h
  have e1 : ((l.length : Int) == 0) = false := by rw [beq_eq_false_iff_ne]; omega
  have HL : Hid (tryF 9221120237041090561 l p = [l.getD p 0, nxB 9221120237041090561 (key (l.getD (p - 1) 0))]) := by
    show _ = _
    unfold tryF
    rw [if_pos hp, if_neg (beq_eq_false_iff_ne.1 hpv)]
    rw [if_pos h0, if_pos (beq_iff_eq.1 hnx)]
    rfl
  rw [HL.out]
  clear HL
  have hP := fun wx => isPlace26 a l.length c (p : Int) wx
  rw [show decide (0 ≤ (p : Int) ∧ (p : Int) < (l.length : Int)) = true by simp; omega] at hP
  have hQ := fun wx => isPlace26 a l.length c ((p : Int) - 1) wx
  rw [show decide (0 ≤ (p : Int) - 1 ∧ (p : Int) - 1 < (l.length : Int)) = true by simp; omega] at hQ
  obtain ⟨b3, o3, e3, cv⟩ := (hrl.keep k12) p hp
  have hpc : (p : Int) < (l.length : Int) := by omega
  have hPv := fun wx => Prev_any (l.getD p 0) wx (hwl p hp)
  generalize hy : l.getD p 0 = y at *
  generalize pvE (key y) = pe at *
  generalize pvB 9221120237041090561 (key y) = pv at *
  obtain ⟨r, hr⟩ : ∃ r, p = r + 1 := ⟨p - 1, by omega⟩
  have hri : (p : Int) - 1 = (r : Int) := by omega
  rw [show p - 1 = r by omega] at *
  have hrl2 : r < l.length := by omega
  have hrc : (r : Int) < (l.length : Int) := by omega
  obtain ⟨b4, o4, e4, cz⟩ := (hrl.keep k12) r hrl2
  have hNx := fun wx => Next_any (l.getD r 0) wx (hwl r hrl2)
  generalize l.getD r 0 = z at *
  generalize nxE (key z) = ne at *
  generalize nxB 9221120237041090561 (key z) = nx at *
  rw [hri] at hQ
  clear hr
  subst e3
  simp only [Option.some.injEq, Addr.mk.injEq, and_true] at e4
  obtain ⟨rfl, rfl⟩ := e4
  clear hwl hrl hy
  go_enter Try.func18, Try.ntmps18
  go_wp2_with (first
    | rw [hw1]
    | rw [hw2]
    | (go_at_call 30; have _t := done1; refine (hQ _).mono ?_; rintro e wz ⟨rfl, hz⟩; rw [hz]; clear hz)
    | (go_at_call 30; refine (hP _).mono ?_; rintro e wz ⟨rfl, hz⟩; rw [hz]; clear hz; have done1 : True := trivial)
    | (go_at_call 31; refine (hPv _).mono ?_; rintro e wz ⟨rfl, hz⟩; rw [hz]; clear hz)
    | (go_at_call 32; refine (hNx _).mono ?_; rintro e wz ⟨rfl, hz⟩; rw [hz]; clear hz)
    | (at_builtin; refine wpList_appG Try.underlying26 i33 rfl (by decide) (by decide) w2.heap.size _ rfl _ _ rfl 1 (VF [y]) (VF [nx]) _ rfl (own_keep o5 ((Keep.refl w5).alloc _)) (k5.alloc (Obj.cells #[.float .f64 nx] 33)).le ⟨w5.heap.size, 0, none⟩ 1 rfl rfl (newsF w5 nx) (VF_one _) (by omega) ?_; intro v6 w6 o6 g6; have k6 := keep_grown (k5.alloc (Obj.cells #[.float .f64 nx] 33)) (own_keep o5 ((Keep.refl w5).alloc _)) g6; have c01 := k6.cell c0; have c11 := k6.cell c1; have d01 := k6.cell d0; have d11 := k6.cell d1; have d21 := k6.cell d2; have cv1 := k6.cell cv; have cz1 := k6.cell cz)
    | (at_builtin; refine wpList_appG Try.underlying26 i33 rfl (by decide) (by decide) w2.heap.size _ rfl _ _ rfl 0 (VF []) (VF [y]) _ rfl (own_nil 33 1 w2.heap.size _) ((Keep.refl w2).alloc (Obj.cells #[.float .f64 y] 33)).le ⟨w2.heap.size, 0, none⟩ 1 rfl rfl (newsF w2 y) (VF_one _) (by omega) ?_; intro v5 w5 o5 g5; have k5 := keep_grown ((Keep.refl w2).alloc (Obj.cells #[.float .f64 y] 33)) (own_nil 33 1 w2.heap.size _) g5; have c00 := k5.cell c0; have c10 := k5.cell c1; have d00 := k5.cell d0; have d10 := k5.cell d1; have d20 := k5.cell d2; have cv0 := k5.cell cv; have cz0 := k5.cell cz))
  have ow : w6.ownsRow w2.heap.size 33 1 v6 ([y, nx] : List Nat).length (VF [y, nx]) := o6
  obtain ⟨a', c', rfl, h1, h2⟩ := own_rdf ow
  go_ret
  exact ⟨a', c', rfl, h1, h2, k12.trans k6⟩
set_option maxRecDepth 100000 in
set_option maxHeartbeats 1000000 in
theorem pt_inpn (a a2 : Option Addr) (c c2 : Nat) (l : List Nat) (t : List Int) (w : World) (h : Sc w a a2 l t) (p : Nat) (hl : 0 < l.length) (hp : p < l.length) (hpv : (pvE (key (l.getD p 0)) == 0) = false) (h0 : 0 < p) (hnx : (nxE (key (l.getD (p - 1) 0)) == 0) = false)  :
    Calls Try.prog 18 #[SV a l.length c a2 t.length c2, .agg #[.int .i64 (p : Nat), .int .i64 (-1), .bool false]] w fun e w' => ∃ a' c', e = .returned (.slice a' (tryF 9221120237041090561 l p).length c') ∧ (tryF 9221120237041090561 l p).length ≤ c' ∧ RdF w' a' (tryF 9221120237041090561 l p) ∧ Keep w w' := by
  obtain ⟨w1, hw1, k1, t1, s1⟩ := boxed w #[.slice a l.length c, .slice a2 t.length c2] 46
  obtain ⟨w2, hw2, k2, t2, s2⟩ := boxed w1 #[.int .i64 (p : Nat), .int .i64 (-1), .bool false] 28
  rw [s1] at t2
  have k12 := k1.trans k2
  have q1 := k2.at t1
  obtain ⟨c0, c1, f0, f1⟩ := cells2 q1
  obtain ⟨d0, d1, d2, g0, g1, g2⟩ := cells3 t2
  clear s2
  have hnl := h.nl
  have hwl := h.wl
  have hrl := h.rl
  clear h
  have e1 : ((l.length : Int) == 0) = false := by rw [beq_eq_false_iff_ne]; omega
  have HL : Hid (tryF 9221120237041090561 l p = [l.getD p 0]) := by
    show _ = _
    unfold tryF
    rw [if_pos hp, if_neg (beq_eq_false_iff_ne.1 hpv)]
    rw [if_pos h0, if_neg (beq_eq_false_iff_ne.1 hnx)]
    rfl
  rw [HL.out]
  clear HL
  have hP := fun wx => isPlace26 a l.length c (p : Int) wx
  rw [show decide (0 ≤ (p : Int) ∧ (p : Int) < (l.length : Int)) = true by simp; omega] at hP
  have hQ := fun wx => isPlace26 a l.length c ((p : Int) - 1) wx
  rw [show decide (0 ≤ (p : Int) - 1 ∧ (p : Int) - 1 < (l.length : Int)) = true by simp; omega] at hQ
  obtain ⟨b3, o3, e3, cv⟩ := (hrl.keep k12) p hp
  have hpc : (p : Int) < (l.length : Int) := by omega
  have hPv := fun wx => Prev_any (l.getD p 0) wx (hwl p hp)
  generalize hy : l.getD p 0 = y at *
  generalize pvE (key y) = pe at *
  generalize pvB 9221120237041090561 (key y) = pv at *
  obtain ⟨r, hr⟩ : ∃ r, p = r + 1 := ⟨p - 1, by omega⟩
  have hri : (p : Int) - 1 = (r : Int) := by omega
  rw [show p - 1 = r by omega] at *
  have hrl2 : r < l.length := by omega
  have hrc : (r : Int) < (l.length : Int) := by omega
  obtain ⟨b4, o4, e4, cz⟩ := (hrl.keep k12) r hrl2
  have hNx := fun wx => Next_any (l.getD r 0) wx (hwl r hrl2)
  generalize l.getD r 0 = z at *
  generalize nxE (key z) = ne at *
  generalize nxB 9221120237041090561 (key z) = nx at *
  rw [hri] at hQ
  clear hr
  subst e3
  simp only [Option.some.injEq, Addr.mk.injEq, and_true] at e4
  obtain ⟨rfl, rfl⟩ := e4
  clear hwl hrl hy
  go_enter Try.func18, Try.ntmps18
  go_wp2_with (first
    | rw [hw1]
    | rw [hw2]
    | (go_at_call 30; have _t := done1; refine (hQ _).mono ?_; rintro e wz ⟨rfl, hz⟩; rw [hz]; clear hz)
    | (go_at_call 30; refine (hP _).mono ?_; rintro e wz ⟨rfl, hz⟩; rw [hz]; clear hz; have done1 : True := trivial)
    | (go_at_call 31; refine (hPv _).mono ?_; rintro e wz ⟨rfl, hz⟩; rw [hz]; clear hz)
    | (go_at_call 32; refine (hNx _).mono ?_; rintro e wz ⟨rfl, hz⟩; rw [hz]; clear hz)
    | (at_builtin; refine wpList_appG Try.underlying26 i33 rfl (by decide) (by decide) w2.heap.size _ rfl _ _ rfl 0 (VF []) (VF [y]) _ rfl (own_nil 33 1 w2.heap.size _) ((Keep.refl w2).alloc (Obj.cells #[.float .f64 y] 33)).le ⟨w2.heap.size, 0, none⟩ 1 rfl rfl (newsF w2 y) (VF_one _) (by omega) ?_; intro v5 w5 o5 g5; have k5 := keep_grown ((Keep.refl w2).alloc (Obj.cells #[.float .f64 y] 33)) (own_nil 33 1 w2.heap.size _) g5; have c00 := k5.cell c0; have c10 := k5.cell c1; have d00 := k5.cell d0; have d10 := k5.cell d1; have d20 := k5.cell d2; have cv0 := k5.cell cv; have cz0 := k5.cell cz))
  have ow : w5.ownsRow w2.heap.size 33 1 v5 ([y] : List Nat).length (VF [y]) := o5
  obtain ⟨a', c', rfl, h1, h2⟩ := own_rdf ow
  go_ret
  exact ⟨a', c', rfl, h1, h2, k12.trans k5⟩
set_option maxRecDepth 100000 in
set_option maxHeartbeats 1000000 in
theorem pt_inz (a a2 : Option Addr) (c c2 : Nat) (l : List Nat) (t : List Int) (w : World) (h : Sc w a a2 l t) (hl : 0 < l.length) (hpv : (pvE (key (l.getD 0 0)) == 0) = false)  :
    Calls Try.prog 18 #[SV a l.length c a2 t.length c2, .agg #[.int .i64 0, .int .i64 (-1), .bool false]] w fun e w' => ∃ a' c', e = .returned (.slice a' (tryF 9221120237041090561 l 0).length c') ∧ (tryF 9221120237041090561 l 0).length ≤ c' ∧ RdF w' a' (tryF 9221120237041090561 l 0) ∧ Keep w w' := by
  obtain ⟨w1, hw1, k1, t1, s1⟩ := boxed w #[.slice a l.length c, .slice a2 t.length c2] 46
  obtain ⟨w2, hw2, k2, t2, s2⟩ := boxed w1 #[.int .i64 0, .int .i64 (-1), .bool false] 28
  rw [s1] at t2
  have k12 := k1.trans k2
  have q1 := k2.at t1
  obtain ⟨c0, c1, f0, f1⟩ := cells2 q1
  obtain ⟨d0, d1, d2, g0, g1, g2⟩ := cells3 t2
  clear s2
  have hnl := h.nl
  have hwl := h.wl
  have hrl := h.rl
  clear h
  have e1 : ((l.length : Int) == 0) = false := by rw [beq_eq_false_iff_ne]; omega
  have HL : Hid (tryF 9221120237041090561 l 0 = [l.getD 0 0]) := by
    show _ = _
    unfold tryF
    rw [if_pos hl, if_neg (beq_eq_false_iff_ne.1 hpv)]
    rw [if_neg (by omega)]
    rfl
  rw [HL.out]
  clear HL
  have hP := fun wx => isPlace26 a l.length c 0 wx
  rw [show decide (0 ≤ (0 : Int) ∧ (0 : Int) < (l.length : Int)) = true by rw [decide_eq_true_eq]; omega] at hP
  have hQ := fun wx => isPlace26 a l.length c (-1) wx
  rw [show decide (0 ≤ (-1 : Int) ∧ (-1 : Int) < (l.length : Int)) = false by rw [decide_eq_false_iff_not]; omega] at hQ
  obtain ⟨b3, o3, e3, cv⟩ := (hrl.keep k12) 0 hl
  rw [Nat.add_zero] at cv
  have hpc : (0 : Int) < (l.length : Int) := by omega
  have hPv := fun wx => Prev_any (l.getD 0 0) wx (hwl 0 hl)
  generalize hy : l.getD 0 0 = y at *
  generalize pvE (key y) = pe at *
  generalize pvB 9221120237041090561 (key y) = pv at *
  subst e3
  clear hwl hrl hy
  go_enter Try.func18, Try.ntmps18
  go_wp2_with (first
    | rw [hw1]
    | rw [hw2]
    | (go_at_call 30; have _t := done1; refine (hQ _).mono ?_; rintro e wz ⟨rfl, hz⟩; rw [hz]; clear hz)
    | (go_at_call 30; refine (hP _).mono ?_; rintro e wz ⟨rfl, hz⟩; rw [hz]; clear hz; have done1 : True := trivial)
    | (go_at_call 31; refine (hPv _).mono ?_; rintro e wz ⟨rfl, hz⟩; rw [hz]; clear hz)
    | (at_builtin; refine wpList_appG Try.underlying26 i33 rfl (by decide) (by decide) w2.heap.size _ rfl _ _ rfl 0 (VF []) (VF [y]) _ rfl (own_nil 33 1 w2.heap.size _) ((Keep.refl w2).alloc (Obj.cells #[.float .f64 y] 33)).le ⟨w2.heap.size, 0, none⟩ 1 rfl rfl (newsF w2 y) (VF_one _) (by omega) ?_; intro v5 w5 o5 g5; have k5 := keep_grown ((Keep.refl w2).alloc (Obj.cells #[.float .f64 y] 33)) (own_nil 33 1 w2.heap.size _) g5; have c00 := k5.cell c0; have c10 := k5.cell c1; have d00 := k5.cell d0; have d10 := k5.cell d1; have d20 := k5.cell d2; have cv0 := k5.cell cv))
  have ow : w5.ownsRow w2.heap.size 33 1 v5 ([y] : List Nat).length (VF [y]) := o5
  obtain ⟨a', c', rfl, h1, h2⟩ := own_rdf ow
  go_ret
  exact ⟨a', c', rfl, h1, h2, k12.trans k5⟩
set_option maxRecDepth 100000 in
set_option maxHeartbeats 1000000 in
theorem pt_epy (a a2 : Option Addr) (c c2 : Nat) (l : List Nat) (t : List Int) (w : World) (h : Sc w a a2 l t) (p : Nat) (hl : 0 < l.length) (hp : p = l.length) (h0 : 0 < p) (hnx : (nxE (key (l.getD (p - 1) 0)) == 0) = true)  :
    Calls Try.prog 18 #[SV a l.length c a2 t.length c2, .agg #[.int .i64 (p : Nat), .int .i64 (-1), .bool false]] w fun e w' => ∃ a' c', e = .returned (.slice a' (tryF 9221120237041090561 l p).length c') ∧ (tryF 9221120237041090561 l p).length ≤ c' ∧ RdF w' a' (tryF 9221120237041090561 l p) ∧ Keep w w' := by
  obtain ⟨w1, hw1, k1, t1, s1⟩ := boxed w #[.slice a l.length c, .slice a2 t.length c2] 46
  obtain ⟨w2, hw2, k2, t2, s2⟩ := boxed w1 #[.int .i64 (p : Nat), .int .i64 (-1), .bool false] 28
  rw [s1] at t2
  have k12 := k1.trans k2
  have q1 := k2.at t1
  obtain ⟨c0, c1, f0, f1⟩ := cells2 q1
  obtain ⟨d0, d1, d2, g0, g1, g2⟩ := cells3 t2
  clear s2
  have hnl := h.nl
  have hwl := h.wl
  have hrl := h.rl
  clear h
  have e1 : ((l.length : Int) == 0) = false := by rw [beq_eq_false_iff_ne]; omega
  have HL : Hid (tryF 9221120237041090561 l p = [nxB 9221120237041090561 (key (l.getD (p - 1) 0))]) := by
    show _ = _
    unfold tryF
    rw [if_neg (by omega)]
    rw [if_pos h0, if_pos (beq_iff_eq.1 hnx)]
    rfl
  rw [HL.out]
  clear HL
  have hP := fun wx => isPlace26 a l.length c (p : Int) wx
  rw [show decide (0 ≤ (p : Int) ∧ (p : Int) < (l.length : Int)) = false by simp; omega] at hP
  have hQ := fun wx => isPlace26 a l.length c ((p : Int) - 1) wx
  rw [show decide (0 ≤ (p : Int) - 1 ∧ (p : Int) - 1 < (l.length : Int)) = true by simp; omega] at hQ
  obtain ⟨r, hr⟩ : ∃ r, p = r + 1 := ⟨p - 1, by omega⟩
  have hri : (p : Int) - 1 = (r : Int) := by omega
  rw [show p - 1 = r by omega] at *
  have hrl2 : r < l.length := by omega
  have hrc : (r : Int) < (l.length : Int) := by omega
  obtain ⟨b4, o4, e4, cz⟩ := (hrl.keep k12) r hrl2
  have hNx := fun wx => Next_any (l.getD r 0) wx (hwl r hrl2)
  generalize l.getD r 0 = z at *
  generalize nxE (key z) = ne at *
  generalize nxB 9221120237041090561 (key z) = nx at *
  rw [hri] at hQ
  clear hr
  subst e4
  clear hwl hrl
  replace hp : Hid _ := hp
  go_enter Try.func18, Try.ntmps18
  go_wp2_with (first
    | rw [hw1]
    | rw [hw2]
    | (go_at_call 30; have _t := done1; refine (hQ _).mono ?_; rintro e wz ⟨rfl, hz⟩; rw [hz]; clear hz)
    | (go_at_call 30; refine (hP _).mono ?_; rintro e wz ⟨rfl, hz⟩; rw [hz]; clear hz; have done1 : True := trivial)
    | (go_at_call 32; refine (hNx _).mono ?_; rintro e wz ⟨rfl, hz⟩; rw [hz]; clear hz)
    | (at_builtin; refine wpList_appG Try.underlying26 i33 rfl (by decide) (by decide) w2.heap.size _ rfl _ _ rfl 0 (VF []) (VF [nx]) _ rfl (own_nil 33 1 w2.heap.size _) ((Keep.refl w2).alloc (Obj.cells #[.float .f64 nx] 33)).le ⟨w2.heap.size, 0, none⟩ 1 rfl rfl (newsF w2 nx) (VF_one _) (by omega) ?_; intro v5 w5 o5 g5; have k5 := keep_grown ((Keep.refl w2).alloc (Obj.cells #[.float .f64 nx] 33)) (own_nil 33 1 w2.heap.size _) g5; have c00 := k5.cell c0; have c10 := k5.cell c1; have d00 := k5.cell d0; have d10 := k5.cell d1; have d20 := k5.cell d2; have cz0 := k5.cell cz))
  have ow : w5.ownsRow w2.heap.size 33 1 v5 ([nx] : List Nat).length (VF [nx]) := o5
  obtain ⟨a', c', rfl, h1, h2⟩ := own_rdf ow
  go_ret
  exact ⟨a', c', rfl, h1, h2, k12.trans k5⟩
set_option maxRecDepth 100000 in
set_option maxHeartbeats 1000000 in
theorem pt_epn (a a2 : Option Addr) (c c2 : Nat) (l : List Nat) (t : List Int) (w : World) (h : Sc w a a2 l t) (p : Nat) (hl : 0 < l.length) (hp : p = l.length) (h0 : 0 < p) (hnx : (nxE (key (l.getD (p - 1) 0)) == 0) = false)  :
    Calls Try.prog 18 #[SV a l.length c a2 t.length c2, .agg #[.int .i64 (p : Nat), .int .i64 (-1), .bool false]] w fun e w' => ∃ a' c', e = .returned (.slice a' (tryF 9221120237041090561 l p).length c') ∧ (tryF 9221120237041090561 l p).length ≤ c' ∧ RdF w' a' (tryF 9221120237041090561 l p) ∧ Keep w w' := by
  obtain ⟨w1, hw1, k1, t1, s1⟩ := boxed w #[.slice a l.length c, .slice a2 t.length c2] 46
  obtain ⟨w2, hw2, k2, t2, s2⟩ := boxed w1 #[.int .i64 (p : Nat), .int .i64 (-1), .bool false] 28
  rw [s1] at t2
  have k12 := k1.trans k2
  have q1 := k2.at t1
  obtain ⟨c0, c1, f0, f1⟩ := cells2 q1
  obtain ⟨d0, d1, d2, g0, g1, g2⟩ := cells3 t2
  clear s2
  have hnl := h.nl
  have hwl := h.wl
  have hrl := h.rl
  clear h
  have e1 : ((l.length : Int) == 0) = false := by rw [beq_eq_false_iff_ne]; omega
  have HL : Hid (tryF 9221120237041090561 l p = []) := by
    show _ = _
    unfold tryF
    rw [if_neg (by omega)]
    rw [if_pos h0, if_neg (beq_eq_false_iff_ne.1 hnx)]
    rfl
  rw [HL.out]
  clear HL
  have hP := fun wx => isPlace26 a l.length c (p : Int) wx
  rw [show decide (0 ≤ (p : Int) ∧ (p : Int) < (l.length : Int)) = false by simp; omega] at hP
  have hQ := fun wx => isPlace26 a l.length c ((p : Int) - 1) wx
  rw [show decide (0 ≤ (p : Int) - 1 ∧ (p : Int) - 1 < (l.length : Int)) = true by simp; omega] at hQ
  obtain ⟨r, hr⟩ : ∃ r, p = r + 1 := ⟨p - 1, by omega⟩
  have hri : (p : Int) - 1 = (r : Int) := by omega
  rw [show p - 1 = r by omega] at *
  have hrl2 : r < l.length := by omega
  have hrc : (r : Int) < (l.length : Int) := by omega
  obtain ⟨b4, o4, e4, cz⟩ := (hrl.keep k12) r hrl2
  have hNx := fun wx => Next_any (l.getD r 0) wx (hwl r hrl2)
  generalize l.getD r 0 = z at *
  generalize nxE (key z) = ne at *
  generalize nxB 9221120237041090561 (key z) = nx at *
  rw [hri] at hQ
  clear hr
  subst e4
  clear hwl hrl
  replace hp : Hid _ := hp
  go_enter Try.func18, Try.ntmps18
  go_wp2_with (first
    | rw [hw1]
    | rw [hw2]
    | (go_at_call 30; have _t := done1; refine (hQ _).mono ?_; rintro e wz ⟨rfl, hz⟩; rw [hz]; clear hz)
    | (go_at_call 30; refine (hP _).mono ?_; rintro e wz ⟨rfl, hz⟩; rw [hz]; clear hz; have done1 : True := trivial)
    | (go_at_call 32; refine (hNx _).mono ?_; rintro e wz ⟨rfl, hz⟩; rw [hz]; clear hz))
  go_ret
  exact ⟨none, 0, rfl, Nat.le_refl _, fun j hj => by simp at hj, k12⟩
end Go.Proofs.Ytjbiknnichfajaa
