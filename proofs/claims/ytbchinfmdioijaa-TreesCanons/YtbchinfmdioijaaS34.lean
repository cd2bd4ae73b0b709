import Derived.Test.YtbchinfmdioijaaS28
import Derived.Test.YtbchinfmdioijaaS17
import Derived.Test.YtbchinfmdioijaaY3
import Derived.Deep.RegionHeld3
set_option linter.unusedVariables false
set_option linter.unusedSimpArgs false
namespace Go.Proofs.Ytbchinfmdioijaa
open Go.RowKit Go.Shelf
theorem OwnT.mono {B B' : Nat} {w : World} {v : Value} {l : List (Int × Option Addr × Nat × Nat)} (h : OwnT B w v l) (hB : B' ≤ B) : OwnT B' w v l := by
  refine ⟨h.1, ?_⟩
  rcases h.2 with h2 | ⟨g, cap, cur, hv, hg, r⟩
  · exact .inl h2
  · exact .inr ⟨g, cap, cur, hv, Nat.le_trans hB hg, r⟩
set_option maxRecDepth 100000 in
set_option maxHeartbeats 2000000 in
theorem rCopy_own (nm : ByteArray) (fa : Option Addr) (fs : List ByteArray) (cf : Nat) (N : Int) (ba : Option Addr) (base : List Int) (cb : Nat) (ta : Option Addr) (ts : List (Int × List Nd)) (ct : Nat) (w : World)
    (hf : RdS w fa fs) (hfl : fs.length ≤ 8796093022208) (hb : RdI w ba base) (hbl : base.length ≤ 17592186044416) (ht : RdT w ta ts) (htl : ts.length ≤ 4398046511104) (hts : ∀ j, j < ts.length → (ts.getD j (0, [])).2.length ≤ 1759218604441) :
    Calls Try.prog 28 #[ens nm fa fs.length cf N ba base.length cb ta ts.length ct] w fun e w' => ∃ fa' cf' ba' cb' ta' ct', e = .returned (ens nm fa' fs.length cf' N ba' base.length cb' ta' ts.length ct') ∧ RdS w' fa' fs ∧ fs.length ≤ cf' ∧ RdI w' ba' base ∧ base.length ≤ cb' ∧ RdT w' ta' ts ∧ ts.length ≤ ct' ∧ Keep w w' ∧ OwnS w.heap.size w' (.slice fa' fs.length cf') fs ∧ OwnZ 2 w.heap.size w' (.slice ba' base.length cb') base ∧ ∃ K, K.length = ts.length ∧ OwnT w.heap.size w' (.slice ta' ts.length ct') K := by
  unfold ens
  obtain ⟨w1, hw1, k1, s1, r0, r1, r2⟩ := boxes3g w #[Value.string nm, Value.slice fa fs.length cf, Value.int IntKind.i64 N, Value.slice ba base.length cb, Value.slice ta ts.length ct] #[Value.string { data := #[] }, Value.slice none 0 0, Value.int IntKind.i64 0, Value.slice none 0 0, Value.slice none 0 0] #[Value.string nm, Value.slice fa fs.length cf, Value.int IntKind.i64 N, Value.slice ba base.length cb, Value.slice ta ts.length ct] 52 52 52
  have hf1 := hf.keep k1
  replace hw1 : Hid _ := hw1
  replace r0 : Hid _ := r0
  replace r1 : Hid _ := r1
  replace r2 : Hid _ := r2
  go_enter Try.func28, Try.ntmps28
  go_wp2_with (at_builtin; first | (rw [hw1.out]; refine wpList_copyS rfl _ _ rfl fs fa cf ?_ ?_ hf1 hfl ?_; rotate_left 2; intro vf w2 hO2 k2; obtain ⟨fa', cf', rfl, hcf, hrf⟩ := hO2.shape; have q0 := (k2.block _ (by omega)).trans r0.out; have q1 := (k2.block _ (by omega)).trans r1.out; have q2 := (k2.block _ (by omega)).trans r2.out; have fz := frozen_of_row w2 _ 1 _ 52 q2; have e3 := cell_of_row w2 _ 3 _ 52 (0, 0) q0; have e1 := cell_of_row w2 _ 1 _ 52 (0, 0) q2; simp at e3 e1; replace q0 : Hid _ := q0; replace q1 : Hid _ := q1; replace q2 : Hid _ := q2; clear hw1) | (have hq := set_out (i := 1) (u := .slice fa' fs.length cf') (k1.trans k2) (by omega) q0.out q1.out q2.out; refine wpList_copyB rfl _ _ rfl base ba cb ?_ ?_ (hb.keep hq.1) hbl ?_; rotate_left 2; intro vb w4 hO4 k4; obtain ⟨ba', cb', rfl, hcb, hrb⟩ := hO4.shape; have p0 := (k4.block _ (Array.getElem?_eq_some_iff.1 hq.2.1).1).trans hq.2.1; have p1 := (k4.block _ (Array.getElem?_eq_some_iff.1 hq.2.2.1).1).trans hq.2.2.1; have p2 := (k4.block _ (Array.getElem?_eq_some_iff.1 hq.2.2.2).1).trans hq.2.2.2; have fz4 := frozen_of_row w4 _ 3 _ 52 p2; have e4 := cell_of_row w4 _ 4 _ 52 (0, 0) p0; have e5 := cell_of_row w4 _ 3 _ 52 (0, 0) p2; simp at e4 e5; replace p0 : Hid _ := p0; replace p1 : Hid _ := p1; replace p2 : Hid _ := p2; replace hq : Hid _ := hq; clear e3 e1 fz))
  rotate_left 1
  · rfl
  · rfl
  · rfl
  · rfl
  have hq5 := set_out (i := 3) (u := .slice ba' base.length cb') (hq.out.1.trans k4) (by omega) p0.out p1.out p2.out
  have hs2 := k2.le
  have hs4 := k4.le
  rw [World.size_setCell] at hs4
  have hO5 : OwnS (w.heap.size + 3) (w4.setCell ⟨w.heap.size + 1 + 1, 3, none⟩ (.slice ba' base.length cb')) (.slice fa' fs.length cf') fs := by
    rw [s1] at hO2
    have h1 : OwnS (w.heap.size + 3) (w2.setCell ⟨w.heap.size + 1 + 1, 1, none⟩ (.slice fa' fs.length cf')) (.slice fa' fs.length cf') fs := hO2.same (fun b hb => neq_set w2 _ _ _ b (by have := (hO2.block hb).1; omega))
    have h2 := h1.keep k4
    exact h2.same (fun b hb => neq_set w4 _ _ _ b (by have := (h2.block hb).1; omega))
  have hO6 : OwnZ 2 (w.heap.size + 3) (w4.setCell ⟨w.heap.size + 1 + 1, 3, none⟩ (.slice ba' base.length cb')) (.slice ba' base.length cb') base := by
    rw [World.size_setCell] at hO4
    exact (hO4.same (fun b hb => neq_set w4 _ _ _ b (by have := (hO4.block hb).1; omega))).mono (by omega)
  clear hO2 hO4 hrf hrb p0 p1 p2 q0 q1 q2 hq r0 r1 r2 k4 k2 hf1 k1 s1 hs2 hs4 fz4 e4 e5
  generalize w4.setCell ⟨w.heap.size + 1 + 1, 3, none⟩ (.slice ba' base.length cb') = W at *
  obtain ⟨kW, z0, z1, z2⟩ := hq5
  have htW := ht.keep kW
  replace z0 : Hid _ := z0
  replace z1 : Hid _ := z1
  replace z2 : Hid _ := z2
  clear hb hf
  replace ht : Hid _ := ht
  go_loopw [5, 23] (fun v iv wr => ∃ (k : Nat) (K : List (Int × Option Addr × Nat × Nat)), k ≤ ts.length ∧ iv = .int .i64 k ∧ CIt ts W k v wr K) (fun _ iv _ => ts.length - (intOf iv).toNat)
  case atStart => exact ⟨0, [], by omega, rfl, rfl, fun j hj => by omega, OwnT.nil _ _, fun j hj => by omega, Keep.refl W⟩
  case round =>
    obtain ⟨k, K, hk, rfl, hI⟩ := hrel
    by_cases hkl : k < ts.length
    · have hkc : (k : Int) < (ts.length : Int) := by omega
      obtain ⟨b, o, na, nc, rfl, d0, d1, dn, dc, dl, df⟩ := (htW.keep hI.kp) k hkl
      have hln := hts k hkl
      obtain ⟨T, hT⟩ : ∃ T, ts.getD k (0, []) = T := ⟨_, rfl⟩
      have HT : Hid (ts.getD k (0, []) = T) := hT
      rw [hT] at d0 d1 dn dc dl df hln
      clear hT
      obtain ⟨out, L⟩ := T
      simp only at d0 d1 dn dc dl df hln
      have kx : Keep wr (wr.alloc (Obj.cells #[Value.int IntKind.i64 out, Value.slice na L.length nc] 24)) := (Keep.refl wr).alloc _
      have x0 : (wr.alloc (Obj.cells #[Value.int IntKind.i64 out, Value.slice na L.length nc] 24)).drew.cell? ⟨wr.heap.size, 0, none⟩ = some (.int .i64 out) := by
        have := cell_of_row _ _ 0 _ 24 (0, 0) (heap_alloc_new wr (Obj.cells #[Value.int IntKind.i64 out, Value.slice na L.length nc] 24))
        exact this
      have hNd := rNodes_any na nc L (wr.alloc (Obj.cells #[Value.int IntKind.i64 out, Value.slice na L.length nc] 24)).drew hln (dn.keep kx.drew)
      have hKl : K.length + 1 ≤ 4398046511104 := by have := hI.len; omega
      have kd : Keep wr (wr.alloc (Obj.cells #[Value.int IntKind.i64 out, Value.slice na L.length nc] 24)).drew := kx.drew
      go_wp2_with fail
      go_region_law (first
        | (refine step_appT (B := W.heap.size) rfl _ _ rfl K out an L.length cn _ (hI.own.keep (kd.trans k6)) (Nat.le_trans hI.kp.le (kd.trans k6).le) hKl rfl rfl ?_; intro v7 w7 hO7 g7 hv7)
        | (go_simp; go_wp2_with (go_at_call 60; refine hNd.mono ?_; rintro e w6 ⟨vn, rfl, ⟨K6, hN6⟩, k6⟩; obtain ⟨an, cn, rfl, hcn, hC6⟩ := hN6.ct; have x6 := k6.cell x0)))
      all_goals
        have hJ := hI.step HT.out (kd.trans k6) (hC6.same (fun _ _ => rfl) (fun b hb => ⟨by have h1 := hb.1; have h2 := kd.le; omega, hb.2⟩)) hcn hO7 g7 hv7
        clear hO7 g7 hv7 hC6 hN6 hNd x0 x6
        go_simp
        go_wp2_with fail
        go_roundw
        case rel => exact ⟨k + 1, _, by omega, by go_num, hJ⟩
        case measure => simp [intOf]; omega
    · have hkc : ¬ (k : Int) < (ts.length : Int) := by omega
      obtain rfl : k = ts.length := by omega
      obtain ⟨ta', ct', rfl, hct, hrt⟩ := hI.own.shape
      rw [hI.len] at hct ⊢
      have y1 := (hI.kp.block _ (Array.getElem?_eq_some_iff.1 z1.out).1).trans z1.out
      have y2 := (hI.kp.block _ (Array.getElem?_eq_some_iff.1 z2.out).1).trans z2.out
      simp at y2
      have fz := frozen_of_row wr _ 4 _ 52 y2
      have g0 := cell_of_row wr _ 0 _ 52 (0, 0) y2
      have g1 := cell_of_row wr _ 1 _ 52 (0, 0) y2
      have g2 := cell_of_row wr _ 2 _ 52 (0, 0) y2
      have g3 := cell_of_row wr _ 3 _ 52 (0, 0) y2
      have g4 := cell_of_row wr _ 4 _ 52 (0, 0) y2
      simp at g0 g1 g2 g3 g4
      have m0 := cell_of_row wr _ 0 _ 52 (0, 0) y1
      have m1 := cell_of_row wr _ 1 _ 52 (0, 0) y1
      have m2 := cell_of_row wr _ 2 _ 52 (0, 0) y1
      have m3 := cell_of_row wr _ 3 _ 52 (0, 0) y1
      have m4 := cell_of_row wr _ 4 _ 52 (0, 0) y1
      simp at m0 m1 m2 m3 m4
      have n0 := frozen_of_row wr _ 0 _ 52 y1
      have n1 := frozen_of_row wr _ 1 _ 52 y1
      have n2 := frozen_of_row wr _ 2 _ 52 y1
      have n3 := frozen_of_row wr _ 3 _ 52 y1
      have n4 := frozen_of_row wr _ 4 _ 52 y1
      replace y1 : Hid _ := y1
      replace y2 : Hid _ := y2
      go_wp2_with fail
      obtain ⟨F2, F1⟩ := fin_store wr w.heap.size (.slice ta' ts.length ct') (.string nm) (.slice fa' fs.length cf') (.int .i64 N) (.slice ba' base.length cb') (.slice ta' ts.length ct') _ _ _ _ _ y1.out
      have kf : Keep w _ := ((((((kW.trans hI.kp).setCell (p := ⟨w.heap.size + 1 + 1, 4, none⟩) (by show _ ≤ w.heap.size + 1 + 1; omega) (.slice ta' ts.length ct')).setCell (p := ⟨w.heap.size + 1, 0, none⟩) (by show _ ≤ w.heap.size + 1; omega) (.string nm)).setCell (p := ⟨w.heap.size + 1, 1, none⟩) (by show _ ≤ w.heap.size + 1; omega) (.slice fa' fs.length cf')).setCell (p := ⟨w.heap.size + 1, 2, none⟩) (by show _ ≤ w.heap.size + 1; omega) (.int .i64 N)).setCell (p := ⟨w.heap.size + 1, 3, none⟩) (by show _ ≤ w.heap.size + 1; omega) (.slice ba' base.length cb')).setCell (p := ⟨w.heap.size + 1, 4, none⟩) (by show _ ≤ w.heap.size + 1; omega) (.slice ta' ts.length ct')
      have hWs := (Array.getElem?_eq_some_iff.1 z2.out).1
      clear fz g0 g1 g2 g3 g4 m0 m1 m2 m3 m4 n0 n1 n2 n3 n4 y1 y2
      try simp only [Exit.inBlock, Exit.then]
      refine bodyPost_ret (results_cell_row rfl _ _ (w.heap.size + 1) 52 _ (0, 0) _ rfl F2 Try.underlying52 rfl (by kernel_rfl)) rfl ?_
      have o5 := (hO5.keep hI.kp)
      have o5 := o5.same (fun b hb => F1 b (by have := (o5.block hb).1; omega) (by have := (o5.block hb).1; omega))
      have o6 := (hO6.keep hI.kp)
      have o6 := o6.same (fun b hb => F1 b (by have := (o6.block hb).1; omega) (by have := (o6.block hb).1; omega))
      obtain ⟨f1, f2, ef, hf1, hf2⟩ := o5.shape
      obtain ⟨b1, b2, eb, hb1, hb2⟩ := o6.shape
      simp only [Value.slice.injEq] at ef eb
      obtain ⟨rfl, -, rfl⟩ := ef
      obtain ⟨rfl, -, rfl⟩ := eb
      have hI' : CIt ts W ts.length (.slice ta' ts.length ct') wr K := by have h := hI; rw [hI.len] at h; exact h
      have oT := hI'.own.same (fun b hb => F1 b (by have := (hI'.own.block hb).1; omega) (by have := (hI'.own.block hb).1; omega))
      have oT' := OwnT.mono oT (B' := w.heap.size) (by omega)
      have o5' := OwnS.mono o5 (B' := w.heap.size) (by omega)
      have o6' := o6.mono (B' := w.heap.size) (by omega)
      exact ⟨_, _, _, _, _, _, rfl, hf2, hf1, hb2, hb1, hI'.rdT (fun b hb => F1 b (by omega) (by omega)) ht.out, hct, kf, o5', o6', K, hI'.len, oT'⟩
theorem UT_set : ∀ (K : List (Int × Option Addr × Nat × Nat)) (k : Nat) (o : Int) (a : Option Addr) (n c : Nat), k < K.length → UT (K.set k (o, a, n, c)) = ((UT K).set (k * 2) (.int .i64 o)).set (k * 2 + 1) (.slice a n c)
  | [], k, o, a, n, c, h => by simp at h
  | r :: K, 0, o, a, n, c, _ => by simp [UT]
  | r :: K, k + 1, o, a, n, c, h => by
    have ih := UT_set K k o a n c (by simpa using h)
    rw [show (k + 1) * 2 = (k * 2) + 1 + 1 by omega, show k * 2 + 1 + 1 + 1 = (k * 2 + 1) + 1 + 1 by omega]
    simp only [List.set_cons_succ, UT]
    rw [ih]
theorem OwnT.set {B : Nat} {w : World} {g m c : Nat} {K : List (Int × Option Addr × Nat × Nat)} (h : OwnT B w (.slice (some ⟨g, 0, none⟩) m c) K) {k : Nat} (hk : k < K.length) (o : Int) (a : Option Addr) (n c' : Nat) :
    OwnT B ((w.setCell ⟨g, k * 2, none⟩ (.int .i64 o)).setCell ⟨g, k * 2 + 1, none⟩ (.slice a n c')) (.slice (some ⟨g, 0, none⟩) m c) (K.set k (o, a, n, c')) ∧ (∃ cur, w.heap[g]? = some (.cells cur 24 (0, 0)) ∧ K.length * 2 ≤ cur.size) := by
  obtain ⟨h1, h2⟩ := h
  rcases h2 with ⟨h2, -⟩ | ⟨g', cap, cur, hv, hg, hh, r1, r2, r3, r4⟩
  · cases h2
  · simp only [Value.slice.injEq, Option.some.injEq, Addr.mk.injEq, and_true] at hv
    obtain ⟨rfl, rfl, rfl⟩ := hv
    have a1 := heap_setCell_same w g (k * 2) _ 24 (.int .i64 o) hh
    have a2 := heap_setCell_same _ g (k * 2 + 1) _ 24 (.slice a n c') a1
    refine ⟨⟨?_, .inr ⟨g, c, _, by rw [List.length_set], hg, a2, by rw [List.length_set]; exact r1, r2, by simp [r3], ?_⟩⟩, cur, hh, by omega⟩
    · rw [UT_set K k o a n c' hk]; simp only [List.length_set]; exact h1
    · rw [UT_set K k o a n c' hk, List.length_set, ← r4]
      simp only [Array.set!_eq_setIfInBounds, Array.toList_setIfInBounds]
      rw [List.take_set, List.take_set]
end Go.Proofs.Ytbchinfmdioijaa
set_option linter.unusedVariables false
set_option linter.unusedSimpArgs false
namespace Go.Proofs.Ytbchinfmdioijaa
open Go.RowKit Go.Shelf
/-- Numbered anew nodes' numbers still fit. -/
theorem cnoN_fit {L : List Nd} (hLn : L.length ≤ 2199023255552) {w : World} {a : Option Addr} (hrd : RdN w a L) : ∀ j, j < (cnoN L).length → ((cnoN L).getD j nd0).cs.length ≤ 17592186044416 ∧ ((cnoN L).getD j nd0).Fit := by
  intro j hj
  unfold cnoN at hj ⊢
  split at hj
  · rename_i hE
    rw [if_pos hE]
    have hR := shE_rgt hE
    unfold cnoL at hj ⊢
    rw [List.length_map] at hj
    have hle := anF_le L.length (ord (shp L) L.length)
    have hol := ord_len hR.wi
    have hlt : (ord (shp L) L.length)[j] < L.length := ord_lt hR.wi _ (List.getElem_mem hj)
    obtain ⟨b, o, ca, cp, e, hnd⟩ := hrd _ hlt
    have eg : (((ord (shp L) L.length).map (fun i => rnN (anF L.length (ord (shp L) L.length)) (L.getD i nd0))).getD j nd0) = rnN (anF L.length (ord (shp L) L.length)) (L.getD (ord (shp L) L.length)[j] nd0) := by simp [List.getD, hj]
    rw [eg]
    have hf := hnd.ok
    have hs := hnd.sz
    generalize L.getD (ord (shp L) L.length)[j] nd0 = n at *
    refine ⟨hs, hf.kd, hf.vl, hf.ft, hf.th, hf.cs, hf.ms, ?_, ?_⟩
    · have := hle n.lf.toNat
      show -9223372036854775808 ≤ (((anF L.length (ord (shp L) L.length)).getD n.lf.toNat 0 : Nat) : Int) ∧ (((anF L.length (ord (shp L) L.length)).getD n.lf.toNat 0 : Nat) : Int) ≤ 9223372036854775807
      omega
    · have := hle n.rt.toNat
      show -9223372036854775808 ≤ (((anF L.length (ord (shp L) L.length)).getD n.rt.toNat 0 : Nat) : Int) ∧ (((anF L.length (ord (shp L) L.length)).getD n.rt.toNat 0 : Nat) : Int) ≤ 9223372036854775807
      omega
  · simp at hj
theorem CT.rdN2 {w : World} {S : Nat → Prop} {a : Option Addr} {c : Nat} {L : List Nd} (h : CT w S a c L) (hf : ∀ j, j < L.length → (L.getD j nd0).cs.length ≤ 17592186044416 ∧ (L.getD j nd0).Fit) : RdN w a L := by
  obtain ⟨K, h1, h2, h3, h4, h5, h6⟩ := h
  intro j hj
  obtain ⟨a', c', e, hc, hr⟩ := h3.shape
  simp only [Value.slice.injEq] at e
  obtain ⟨rfl, -, rfl⟩ := e
  obtain ⟨b, rfl, hb⟩ := hr j (by omega)
  have hz := h4 j hj
  have he := h2 j hj
  obtain ⟨hs, hfit⟩ := hf j hj
  generalize K.getD j nt0 = r at *
  obtain ⟨N, va, cc⟩ := r
  simp only at he hz
  obtain ⟨a2, c2, e2, hcc, hri⟩ := hz.shape
  simp only [Value.slice.injEq] at e2
  obtain ⟨rfl, -, rfl⟩ := e2
  rw [← he] at hs hfit ⊢
  refine ⟨b, 0, va, cc, rfl, ?_⟩
  rw [Nat.zero_add]
  exact ⟨hb 0 _ (by omega) rfl, hb 1 _ (by omega) rfl, hb 2 _ (by omega) rfl, hb 3 _ (by omega) rfl, hb 4 _ (by omega) rfl, hb 5 _ (by omega) rfl, hb 6 _ (by omega) rfl, hb 7 _ (by omega) rfl, hri, hcc, hs, hfit⟩
end Go.Proofs.Ytbchinfmdioijaa
set_option linter.unusedVariables false
set_option linter.unusedSimpArgs false
namespace Go.Proofs.Ytbchinfmdioijaa
open Go.RowKit Go.Shelf
/-- What the reference's Model holds between two rounds. -/
structure MJt (us : List (Int × List Nd)) (w1 W : World) (v : Value) (k : Nat) (wr : World) (K : List (Int × Option Addr × Nat × Nat)) : Prop where
  len : K.length = us.length
  eq : ∀ j, j < k → (K.getD j tt0).1 = (us.getD j (0, [])).1 ∧ (K.getD j tt0).2.2.1 = (us.getD j (0, [])).2.length ∧ (us.getD j (0, [])).2.length ≤ (K.getD j tt0).2.2.2
  own : OwnT w1.heap.size wr v K
  ct : ∀ j, j < k → CT wr (fun b => W.heap.size ≤ b ∧ b < wr.heap.size) (K.getD j tt0).2.1 (K.getD j tt0).2.2.2 (us.getD j (0, [])).2
  kp : Keep w1 wr
  sz : W.heap.size ≤ wr.heap.size
  low : ∀ b, b < W.heap.size → v.ownBlock ≠ some b → wr.heap[b]? = W.heap[b]?
theorem getD_setT (K : List (Int × Option Addr × Nat × Nat)) (k : Nat) (r : Int × Option Addr × Nat × Nat) (hk : k < K.length) (j : Nat) : (K.set k r).getD j tt0 = if j = k then r else K.getD j tt0 := by
  by_cases e : j = k
  · subst e; simp [List.getD, hk]
  · rw [if_neg e]; simp [List.getD, List.getElem?_set, Ne.symm e]
theorem MJt.step {us : List (Int × List Nd)} {w1 W : World} {g m c : Nat} {k : Nat} {wr : World} {K : List (Int × Option Addr × Nat × Nat)} (hI : MJt us w1 W (.slice (some ⟨g, 0, none⟩) m c) k wr K) (hk : k < us.length) (hg : g < W.heap.size) (hgB : w1.heap.size ≤ g) {O : Int} {M : List Nd} {an : Option Addr} {cn : Nat} {Wq : World}
    (hT : us.getD k (0, []) = (O, M)) (kW : Keep wr Wq) (hC : CT Wq (fun b => wr.heap.size ≤ b ∧ b < Wq.heap.size) an cn M) (hc : M.length ≤ cn) :
    MJt us w1 W (.slice (some ⟨g, 0, none⟩) m c) (k + 1) ((Wq.setCell ⟨g, k * 2, none⟩ (.int .i64 O)).setCell ⟨g, k * 2 + 1, none⟩ (.slice an M.length cn)) (K.set k (O, an, M.length, cn)) := by
  have hkK : k < K.length := by rw [hI.len]; exact hk
  have hsz := hI.sz
  have hle := kW.le
  have hb2 : ∀ b, b ≠ g → ((Wq.setCell ⟨g, k * 2, none⟩ (.int .i64 O)).setCell ⟨g, k * 2 + 1, none⟩ (.slice an M.length cn)).heap[b]? = Wq.heap[b]? := fun b hb => by rw [neq_set _ _ _ _ b hb, neq_set _ _ _ _ b hb]
  have hss : ((Wq.setCell ⟨g, k * 2, none⟩ (.int .i64 O)).setCell ⟨g, k * 2 + 1, none⟩ (.slice an M.length cn)).heap.size = Wq.heap.size := by simp
  refine ⟨by rw [List.length_set]; exact hI.len, ?_, ((hI.own.keep kW).set hkK O an M.length cn).1, ?_, ?_, by omega, ?_⟩
  · intro j hj
    rw [getD_setT K k _ hkK]
    by_cases e : j = k
    · rw [if_pos e, e, hT]; exact ⟨rfl, rfl, hc⟩
    · rw [if_neg e]; exact hI.eq j (by omega)
  · intro j hj
    rw [getD_setT K k _ hkK]
    by_cases e : j = k
    · rw [if_pos e, e, hT]
      exact hC.same (fun b hb => hb2 b (by have := hb.1; omega)) (fun b hb => ⟨by have := hb.1; omega, by have := hb.2; omega⟩)
    · rw [if_neg e]
      refine (hI.ct j (by omega)).same (fun b hb => ?_) (fun b hb => ⟨hb.1, by have := hb.2; omega⟩)
      rw [hb2 b (by have := hb.1; omega)]
      exact kW.block b hb.2
  · exact ((hI.kp.trans kW).setCell (p := ⟨g, k * 2, none⟩) hgB _).setCell (p := ⟨g, k * 2 + 1, none⟩) hgB _
  · intro b hb hne
    rw [hb2 b (fun e => hne (by rw [e]; rfl)), kW.block b (by omega)]
    exact hI.low b hb hne
theorem MJt.rdT {us : List (Int × List Nd)} {w1 W wr wf : World} {ta : Option Addr} {ct : Nat} {K : List (Int × Option Addr × Nat × Nat)} (hI : MJt us w1 W (.slice ta us.length ct) us.length wr K) (hs : ∀ b, w1.heap.size ≤ b → wf.heap[b]? = wr.heap[b]?) (hW : w1.heap.size ≤ W.heap.size)
    (hn : ∀ j, j < us.length → (∀ i, i < (us.getD j (0, [])).2.length → ((us.getD j (0, [])).2.getD i nd0).cs.length ≤ 17592186044416 ∧ ((us.getD j (0, [])).2.getD i nd0).Fit) ∧ (us.getD j (0, [])).2.length ≤ 2199023255552 ∧ (-9223372036854775808 ≤ (us.getD j (0, [])).1 ∧ (us.getD j (0, [])).1 ≤ 9223372036854775807)) : RdT wf ta us ∧ us.length ≤ ct := by
  have ho : OwnT w1.heap.size wf (.slice ta us.length ct) K := hI.own.same (fun b hb => hs b (hI.own.block hb).1)
  obtain ⟨a', c', e, hc, hr⟩ := ho.shape
  simp only [Value.slice.injEq] at e
  obtain ⟨rfl, -, rfl⟩ := e
  rw [hI.len] at hc
  refine ⟨?_, hc⟩
  intro j hj
  obtain ⟨b, rfl, hb⟩ := hr j (by rw [hI.len]; exact hj)
  obtain ⟨hn, hl, hf⟩ := hn j hj
  obtain ⟨e1, e2, e3⟩ := hI.eq j hj
  have hC : CT wf (fun _ => True) _ _ _ := (hI.ct j hj).same (fun b hb => hs b (by have := hb.1; omega)) (fun _ _ => trivial)
  have c0 := hb 0 _ (by omega) rfl
  have c1 := hb 1 _ (by omega) rfl
  rw [e1] at c0
  rw [e2] at c1
  exact ⟨b, 0, _, _, rfl, by rw [Nat.zero_add]; exact c0, by rw [Nat.zero_add]; exact c1, hC.rdN2 hn, e3, hl, hf⟩
end Go.Proofs.Ytbchinfmdioijaa
set_option linter.unusedVariables false
set_option linter.unusedSimpArgs false
namespace Go.Proofs.Ytbchinfmdioijaa
open Go.RowKit Go.Shelf
set_option maxRecDepth 100000 in
set_option maxHeartbeats 2000000 in
theorem rModel_any (nm : ByteArray) (fa : Option Addr) (fs : List ByteArray) (cf : Nat) (N : Int) (ba : Option Addr) (base : List Int) (cb : Nat) (ta : Option Addr) (ts : List (Int × List Nd)) (ct : Nat) (w : World)
    (hf : RdS w fa fs) (hfl : fs.length ≤ 8796093022208) (hb : RdI w ba base) (hbl : base.length ≤ 17592186044416) (ht : RdT w ta ts) (htl : ts.length ≤ 4398046511104) (hts : ∀ j, j < ts.length → (ts.getD j (0, [])).2.length ≤ 1759218604441) :
    Calls Try.prog 34 #[ens nm fa fs.length cf N ba base.length cb ta ts.length ct] w fun e w' => ((mdE ts = 0 ∧ ∃ fa' cf' ba' cb' ta' ct', e = .returned (.tuple #[ens nm fa' fs.length cf' N ba' base.length cb' ta' ts.length ct', .int .i64 0]) ∧ RdS w' fa' fs ∧ fs.length ≤ cf' ∧ RdI w' ba' base ∧ base.length ≤ cb' ∧ RdT w' ta' (mdT ts) ∧ ts.length ≤ ct') ∨ (mdE ts ≠ 0 ∧ e = .returned (.tuple #[ens ⟨#[]⟩ none 0 0 0 none 0 0 none 0 0, .int .i64 (mdE ts)]))) ∧ Keep w w' := by
  have hH := fun (wx : World) (k : Keep w wx) => rCopy_own nm fa fs cf N ba base cb ta ts ct wx (hf.keep k) hfl (hb.keep k) hbl (ht.keep k) htl hts
  unfold ens at hH ⊢
  have hml : (mdT ts).length = ts.length := by simp [mdT]
  obtain ⟨w1, hw1, k1, s1, r0, r1⟩ := boxes2n w #[Value.string nm, Value.slice fa fs.length cf, Value.int IntKind.i64 N, Value.slice ba base.length cb, Value.slice ta ts.length ct] #[Value.string { data := #[] }, Value.slice none 0 0, Value.int IntKind.i64 0, Value.slice none 0 0, Value.slice none 0 0] 52 52
  have hz0 : w.heap.size < w1.heap.size := (Array.getElem?_eq_some_iff.1 r0).1
  have hz1 : w.heap.size + 1 < w1.heap.size := (Array.getElem?_eq_some_iff.1 r1).1
  replace hw1 : Hid _ := hw1
  replace r0 : Hid _ := r0
  replace r1 : Hid _ := r1
  go_enter Try.func34, Try.ntmps34
  go_wp2_with fail
  rw [hw1.out]
  refine (hH _ k1).mono ?_
  rintro e w2 ⟨fa', cf', ba', cb', ta', ct', rfl, rS, hcf, rI, hcb, rT, hct, k2, oF, oB, K0, hK0, oT⟩
  have q0 := (k2.block _ hz0).trans r0.out
  have q1 := (k2.block _ hz1).trans r1.out
  have kb : Keep w2 (w2.alloc (Obj.cells #[Value.string nm, Value.slice fa' fs.length cf', Value.int IntKind.i64 N, Value.slice ba' base.length cb', Value.slice ta' ts.length ct'] 52)) := (Keep.refl w2).alloc _
  have tb : (w2.alloc (Obj.cells #[Value.string nm, Value.slice fa' fs.length cf', Value.int IntKind.i64 N, Value.slice ba' base.length cb', Value.slice ta' ts.length ct'] 52)).heap[w2.heap.size]? = some (Obj.cells #[Value.string nm, Value.slice fa' fs.length cf', Value.int IntKind.i64 N, Value.slice ba' base.length cb', Value.slice ta' ts.length ct'] 52 (0, 0)) := heap_alloc_new w2 _
  have hz2 : w.heap.size + 1 < w2.heap.size := (Array.getElem?_eq_some_iff.1 q1).1
  have p0 := (kb.block _ (by omega)).trans q0
  have x4 := cell_of_row _ _ 4 _ 52 (0, 0) p0
  simp only [List.getElem?_toArray, List.getElem?_cons_zero, List.getElem?_cons_succ] at x4
  have k02 := k1.trans k2
  clear hH
  replace q0 : Hid _ := q0
  replace q1 : Hid _ := q1
  replace tb : Hid _ := tb
  replace p0 : Hid _ := p0
  go_wp2_with fail
  obtain ⟨W, hW⟩ : ∃ W, w2.alloc (Obj.cells #[Value.string nm, Value.slice fa' fs.length cf', Value.int IntKind.i64 N, Value.slice ba' base.length cb', Value.slice ta' ts.length ct'] 52) = W := ⟨_, rfl⟩
  have sW : W.heap.size = w2.heap.size + 1 := by rw [← hW]; simp
  rw [hW] at kb tb ⊢
  clear hW p0 x4
  have h12 := k2.le
  go_loopw [14] (fun iv wr => ∃ (k : Nat) (K : List (Int × Option Addr × Nat × Nat)), k ≤ ts.length ∧ iv = .int .i64 k ∧ MJt (mdT ts) w1 W (.slice ta' ts.length ct') k wr K ∧ Hid (mdE ts = mdE (ts.drop k))) (fun iv _ => ts.length - (intOf iv).toNat)
  case atStart => exact ⟨0, K0, by omega, rfl, ⟨by rw [hml]; exact hK0, fun j hj => by omega, oT.keep kb, fun j hj => by omega, k2.trans kb, Nat.le_refl _, fun b _ _ => rfl⟩, rfl⟩
  case round =>
    obtain ⟨k, K, hk, rfl, hI, hme⟩ := hrel
    have kwr : Keep w wr := k1.trans hI.kp
    have hneB : (Value.slice ta' ts.length ct').ownBlock ≠ some w2.heap.size := fun e => by
      obtain ⟨h1, c, h2⟩ := oT.block e
      have := (Array.getElem?_eq_some_iff.1 h2).1
      omega
    have bxr : wr.heap[w2.heap.size]? = _ := (hI.low _ (by omega) hneB).trans tb.out
    have hzB : w2.heap.size < wr.heap.size := (Array.getElem?_eq_some_iff.1 bxr).1
    have hne1 : w1.heap.size ≤ wr.heap.size := hI.kp.le
    have m1 : wr.heap[w.heap.size + 1]? = some (.cells #[Value.string { data := #[] }, Value.slice none 0 0, Value.int IntKind.i64 0, Value.slice none 0 0, Value.slice none 0 0] 52 (0, 0)) := (hI.kp.block _ hz1).trans r1.out
    by_cases hkl : k < ts.length
    · have hkc : (k : Int) < (ts.length : Int) := by omega
      obtain ⟨b, o, na, nc, rfl, d0, d1, dn, dc, dl, df⟩ := (ht.keep kwr) k hkl
      have hln := hts k hkl
      obtain ⟨T, hT⟩ : ∃ T, ts.getD k (0, []) = T := ⟨_, rfl⟩
      have HT : Hid (ts.getD k (0, []) = T) := hT
      rw [hT] at d0 d1 dn dc dl df hln
      clear hT
      obtain ⟨out, L⟩ := T
      simp only at d0 d1 dn dc dl df hln
      have kx : Keep wr (wr.alloc (Obj.cells #[Value.int IntKind.i64 out, Value.slice na L.length nc] 24)) := (Keep.refl wr).alloc _
      have hCn := rCanon_any na nc out L hln dc (wr.alloc (Obj.cells #[Value.int IntKind.i64 out, Value.slice na L.length nc] 24)) (dn.keep kx)
      have HU := mdT_at hkl HT.out
      obtain ⟨O, hO'⟩ : ∃ O, cnoO L out = O := ⟨_, rfl⟩
      obtain ⟨M, hM⟩ : ∃ M, cnoN L = M := ⟨_, rfl⟩
      rw [hO', hM] at hCn HU
      replace HU : Hid _ := HU
      by_cases hE : shE L = 0
      · rw [hE] at hCn
        have HE : Hid (mdE ts = mdE (ts.drop (k + 1))) := hme.out.trans (mdE_ok hkl HT.out hE)
        obtain ⟨_, _, eo, hoc, hor⟩ := hI.own.shape
        have hKn : K.length = ts.length := by rw [hI.len, hml]
        obtain ⟨g, eg, -⟩ := hor 0 (by omega)
        simp only [Value.slice.injEq] at eo
        obtain ⟨eo1, -, -⟩ := eo
        rw [eg] at eo1
        subst eo1
        obtain ⟨hg1, cg, hg2⟩ := oT.block (b := g) rfl
        have hgl : g < w2.heap.size := (Array.getElem?_eq_some_iff.1 hg2).1
        clear hE hme eg
        go_wp2_with fail
        refine hCn.mono ?_
        rintro e w6 ⟨an, cn, rfl, hcn, hC6, k6⟩
        have kq : Keep wr (w6.alloc (Obj.cells #[Value.int IntKind.i64 O, Value.slice an M.length cn] 24)) := (kx.trans k6).alloc _
        have c4 := cell_of_row _ _ 4 _ 52 (0, 0) ((kq.block _ hzB).trans bxr)
        simp only [List.getElem?_toArray, List.getElem?_cons_zero, List.getElem?_cons_succ] at c4
        obtain ⟨-, cur, hcur, hcs⟩ := (hI.own.keep kq).set (k := k) (by omega) O an M.length cn
        obtain ⟨u0, y0⟩ : ∃ u, (w6.alloc (Obj.cells #[Value.int IntKind.i64 O, Value.slice an M.length cn] 24)).cell? ⟨g, k * 2, none⟩ = some u := by rw [cell_of_row _ _ (k * 2) _ 24 (0, 0) hcur]; exact ⟨_, Array.getElem?_eq_getElem (by omega)⟩
        obtain ⟨u1, y1⟩ : ∃ u, (w6.alloc (Obj.cells #[Value.int IntKind.i64 O, Value.slice an M.length cn] 24)).cell? ⟨g, k * 2 + 1, none⟩ = some u := by rw [cell_of_row _ _ (k * 2 + 1) _ 24 (0, 0) hcur]; exact ⟨_, Array.getElem?_eq_getElem (by omega)⟩
        have f0 := frozen_of_row _ _ (k * 2) _ 24 hcur
        have f1 := frozen_of_row _ _ (k * 2 + 1) _ 24 hcur
        have a1 := heap_setCell_same _ g (k * 2) _ 24 (.int .i64 O) hcur
        obtain ⟨u2, y2⟩ : ∃ u, ((w6.alloc (Obj.cells #[Value.int IntKind.i64 O, Value.slice an M.length cn] 24)).setCell ⟨g, k * 2, none⟩ (.int .i64 O)).cell? ⟨g, k * 2 + 1, none⟩ = some u := by rw [cell_of_row _ _ (k * 2 + 1) _ 24 (0, 0) a1]; exact ⟨_, Array.getElem?_eq_getElem (by simp; omega)⟩
        have f2 := frozen_of_row _ _ (k * 2 + 1) _ 24 a1
        have hJ := hI.step (by rw [hml]; exact hkl) (by omega) hg1 HU.out kq (hC6.same (fun b hb => Below.heap_alloc _ _ _ hb.2) (fun b hb => ⟨by have h1 := hb.1; have h2 := kx.le; omega, by rw [World.size_alloc]; have := hb.2; omega⟩)) hcn
        replace hcur : Hid _ := hcur
        replace a1 : Hid _ := a1
        go_wp2_with fail
        exact ⟨⟨k + 1, _, by omega, by go_num, hJ, HE⟩, by simp [intOf]; omega⟩
      · have HE : Hid (mdE ts = shE L) := hme.out.trans (mdE_bad hkl HT.out hE)
        have hne : mdE ts ≠ 0 := by rw [HE.out]; exact hE
        have hB : (shE L == 0) = false := by simpa using hE
        have hB2 : (shE L != 0) = true := by simpa using hE
        clear hE hme
        generalize shE L = E at *
        go_wp2_with fail
        refine hCn.mono ?_
        rintro e w6 ⟨an, cn, rfl, hcn, hC6, k6⟩
        have kq : Keep wr (w6.alloc (Obj.cells #[Value.int IntKind.i64 O, Value.slice an M.length cn] 24)) := (kx.trans k6).alloc _
        have m6 := (kq.block _ (by omega)).trans m1
        have y0 := cell_of_row _ _ 0 _ 52 (0, 0) m6
        have y1 := cell_of_row _ _ 1 _ 52 (0, 0) m6
        have y2 := cell_of_row _ _ 2 _ 52 (0, 0) m6
        have y3 := cell_of_row _ _ 3 _ 52 (0, 0) m6
        have y4 := cell_of_row _ _ 4 _ 52 (0, 0) m6
        have f0 := frozen_of_row _ _ 0 _ 52 m6
        have f1 := frozen_of_row _ _ 1 _ 52 m6
        have f2 := frozen_of_row _ _ 2 _ 52 m6
        have f3 := frozen_of_row _ _ 3 _ 52 m6
        have f4 := frozen_of_row _ _ 4 _ 52 m6
        simp only [List.getElem?_toArray, List.getElem?_cons_zero, List.getElem?_cons_succ] at y0 y1 y2 y3 y4
        replace m6 : Hid _ := m6
        replace m1 : Hid _ := m1
        go_wp2_with fail
        obtain ⟨F2, F1⟩ := store5 (w6.alloc (Obj.cells #[Value.int IntKind.i64 O, Value.slice an M.length cn] 24)) (w.heap.size + 1) 52 _ _ _ _ _ (.string ⟨#[]⟩) (.slice none 0 0) (.int .i64 0) (.slice none 0 0) (.slice none 0 0) m6.out
        try simp only [Exit.inBlock, Exit.then]
        refine bodyPost_ret (results_cell_tmp rfl _ _ (w.heap.size + 1) 52 _ (0, 0) _ rfl F2 Try.underlying52 rfl (by kernel_rfl)) rfl ?_
        refine ⟨.inr ⟨hne, by rw [HE.out]; rfl⟩, ?_⟩
        exact (((((kwr.trans kq).setCell (p := ⟨w.heap.size + 1, 0, none⟩) (by show w.heap.size ≤ w.heap.size + 1; omega) _).setCell (p := ⟨w.heap.size + 1, 1, none⟩) (by show w.heap.size ≤ w.heap.size + 1; omega) _).setCell (p := ⟨w.heap.size + 1, 2, none⟩) (by show w.heap.size ≤ w.heap.size + 1; omega) _).setCell (p := ⟨w.heap.size + 1, 3, none⟩) (by show w.heap.size ≤ w.heap.size + 1; omega) _).setCell (p := ⟨w.heap.size + 1, 4, none⟩) (by show w.heap.size ≤ w.heap.size + 1; omega) _
    · have hkc : ¬ (k : Int) < (ts.length : Int) := by omega
      obtain rfl : k = ts.length := by omega
      have hI' : MJt (mdT ts) w1 W (.slice ta' (mdT ts).length ct') (mdT ts).length wr K := by rw [hml]; exact hI
      have hm0 : Hid (mdE ts = 0) := by show _ = _; rw [hme.out, List.drop_eq_nil_of_le (Nat.le_refl _)]; rfl
      have g0 := cell_of_row wr _ 0 _ 52 (0, 0) bxr
      have g1 := cell_of_row wr _ 1 _ 52 (0, 0) bxr
      have g2 := cell_of_row wr _ 2 _ 52 (0, 0) bxr
      have g3 := cell_of_row wr _ 3 _ 52 (0, 0) bxr
      have g4 := cell_of_row wr _ 4 _ 52 (0, 0) bxr
      have y0 := cell_of_row wr _ 0 _ 52 (0, 0) m1
      have y1 := cell_of_row wr _ 1 _ 52 (0, 0) m1
      have y2 := cell_of_row wr _ 2 _ 52 (0, 0) m1
      have y3 := cell_of_row wr _ 3 _ 52 (0, 0) m1
      have y4 := cell_of_row wr _ 4 _ 52 (0, 0) m1
      have f0 := frozen_of_row wr _ 0 _ 52 m1
      have f1 := frozen_of_row wr _ 1 _ 52 m1
      have f2 := frozen_of_row wr _ 2 _ 52 m1
      have f3 := frozen_of_row wr _ 3 _ 52 m1
      have f4 := frozen_of_row wr _ 4 _ 52 m1
      simp only [List.getElem?_toArray, List.getElem?_cons_zero, List.getElem?_cons_succ] at g0 g1 g2 g3 g4 y0 y1 y2 y3 y4
      replace m1 : Hid _ := m1
      replace bxr : Hid _ := bxr
      go_wp2_with fail
      obtain ⟨F2, F1⟩ := store5 wr (w.heap.size + 1) 52 _ _ _ _ _ (.string nm) (.slice fa' fs.length cf') (.int .i64 N) (.slice ba' base.length cb') (.slice ta' ts.length ct') m1.out
      try simp only [Exit.inBlock, Exit.then]
      refine bodyPost_ret (results_cell_tmp rfl _ _ (w.heap.size + 1) 52 _ (0, 0) _ rfl F2 Try.underlying52 rfl (by kernel_rfl)) rfl ?_
      have lowb : ∀ b cur ty, w1.heap.size ≤ b → w2.heap[b]? = some (.cells cur ty (0, 0)) → ty ≠ 24 → wr.heap[b]? = w2.heap[b]? := fun b cur ty h1 h2 hty => by
        have hb2 : b < w2.heap.size := (Array.getElem?_eq_some_iff.1 h2).1
        rw [hI.low b (by omega) (fun e => by
          obtain ⟨-, c, h3⟩ := oT.block e
          rw [h2] at h3
          simp only [Option.some.injEq, Obj.cells.injEq] at h3
          exact hty h3.2.1), kb.block b hb2]
      have oF2 := oF.same (w' := (((((wr.setCell ⟨w.heap.size + 1, 0, none⟩ (.string nm)).setCell ⟨w.heap.size + 1, 1, none⟩ (.slice fa' fs.length cf')).setCell ⟨w.heap.size + 1, 2, none⟩ (.int .i64 N)).setCell ⟨w.heap.size + 1, 3, none⟩ (.slice ba' base.length cb')).setCell ⟨w.heap.size + 1, 4, none⟩ (.slice ta' ts.length ct'))) (fun g hg => by
        obtain ⟨h1, c, h2⟩ := oF.block hg
        rw [F1 g (by omega)]
        exact lowb g c 9 h1 h2 (by decide))
      have oB2 := oB.same (w' := (((((wr.setCell ⟨w.heap.size + 1, 0, none⟩ (.string nm)).setCell ⟨w.heap.size + 1, 1, none⟩ (.slice fa' fs.length cf')).setCell ⟨w.heap.size + 1, 2, none⟩ (.int .i64 N)).setCell ⟨w.heap.size + 1, 3, none⟩ (.slice ba' base.length cb')).setCell ⟨w.heap.size + 1, 4, none⟩ (.slice ta' ts.length ct'))) (fun g hg => by
        obtain ⟨h1, c, h2⟩ := oB.block hg
        rw [F1 g (by omega)]
        exact lowb g c 2 h1 h2 (by decide))
      obtain ⟨aF, cF, eF, hF1, hF2⟩ := oF2.shape
      obtain ⟨aB, cB, eB, hB1, hB2⟩ := oB2.shape
      simp only [Value.slice.injEq] at eF eB
      obtain ⟨rfl, -, rfl⟩ := eF
      obtain ⟨rfl, -, rfl⟩ := eB
      have hTT := hI'.rdT (wf := (((((wr.setCell ⟨w.heap.size + 1, 0, none⟩ (.string nm)).setCell ⟨w.heap.size + 1, 1, none⟩ (.slice fa' fs.length cf')).setCell ⟨w.heap.size + 1, 2, none⟩ (.int .i64 N)).setCell ⟨w.heap.size + 1, 3, none⟩ (.slice ba' base.length cb')).setCell ⟨w.heap.size + 1, 4, none⟩ (.slice ta' ts.length ct'))) (fun g hg => F1 g (by omega)) (by omega) (fun j hj => by
        rw [hml] at hj
        obtain ⟨b0, o0, na, nc, -, -, -, hn, -, hl, hf⟩ := ht j hj
        obtain ⟨T, hT⟩ : ∃ T, ts.getD j (0, []) = T := ⟨_, rfl⟩
        have hU := mdT_at hj (out := T.1) (L := T.2) hT
        rw [hU]
        rw [hT] at hn hl hf
        refine ⟨cnoN_fit hl hn, cnoN_len T.2 hl, ?_⟩
        simp only
        unfold cnoO
        split
        · exact hf
        · omega)
      rw [hml] at hTT
      refine ⟨.inl ⟨hm0.out, _, _, _, _, _, _, rfl, hF2, hF1, hB2, hB1, hTT.1, hTT.2⟩, ?_⟩
      exact ((((kwr.setCell (p := ⟨w.heap.size + 1, 0, none⟩) (by show w.heap.size ≤ w.heap.size + 1; omega) _).setCell (p := ⟨w.heap.size + 1, 1, none⟩) (by show w.heap.size ≤ w.heap.size + 1; omega) _).setCell (p := ⟨w.heap.size + 1, 2, none⟩) (by show w.heap.size ≤ w.heap.size + 1; omega) _).setCell (p := ⟨w.heap.size + 1, 3, none⟩) (by show w.heap.size ≤ w.heap.size + 1; omega) _).setCell (p := ⟨w.heap.size + 1, 4, none⟩) (by show w.heap.size ≤ w.heap.size + 1; omega) _
end Go.Proofs.Ytbchinfmdioijaa
set_option linter.unusedVariables false
set_option linter.unusedSimpArgs false
namespace Go.Proofs.Ytbchinfmdioijaa
open Go.RowKit Go.Shelf
/-- What Model answers, of whatever ensemble: its five fields. -/
def mlN (nm : ByteArray) (ts : List (Int × List Nd)) : ByteArray := if mdE ts = 0 then nm else ⟨#[]⟩
def mlF (fs : List ByteArray) (ts : List (Int × List Nd)) : List ByteArray := if mdE ts = 0 then fs else []
def mlO (N : Int) (ts : List (Int × List Nd)) : Int := if mdE ts = 0 then N else 0
def mlB (bs : List Int) (ts : List (Int × List Nd)) : List Int := if mdE ts = 0 then bs else []
def mlT (ts : List (Int × List Nd)) : List (Int × List Nd) := if mdE ts = 0 then mdT ts else []
theorem ml_post {nm : ByteArray} {fs : List ByteArray} {N : Int} {base : List Int} {ts : List (Int × List Nd)} {e : Ending} {w w' : World}
    (h : ((mdE ts = 0 ∧ ∃ fa' cf' ba' cb' ta' ct', e = .returned (.tuple #[ens nm fa' fs.length cf' N ba' base.length cb' ta' ts.length ct', .int .i64 0]) ∧ RdS w' fa' fs ∧ fs.length ≤ cf' ∧ RdI w' ba' base ∧ base.length ≤ cb' ∧ RdT w' ta' (mdT ts) ∧ ts.length ≤ ct') ∨ (mdE ts ≠ 0 ∧ e = .returned (.tuple #[ens ⟨#[]⟩ none 0 0 0 none 0 0 none 0 0, .int .i64 (mdE ts)]))) ∧ Keep w w') :
    ∃ fa' cf' ba' cb' ta' ct', e = .returned (.tuple #[ens (mlN nm ts) fa' (mlF fs ts).length cf' (mlO N ts) ba' (mlB base ts).length cb' ta' (mlT ts).length ct', .int .i64 (mdE ts)]) ∧ RdS w' fa' (mlF fs ts) ∧ RdI w' ba' (mlB base ts) ∧ RdT w' ta' (mlT ts) ∧ Keep w w' := by
  obtain ⟨h | ⟨h0, rfl⟩, k⟩ := h
  · obtain ⟨h0, fa', cf', ba', cb', ta', ct', rfl, h1, -, h2, -, h3, -⟩ := h
    have hl : (mdT ts).length = ts.length := by simp [mdT]
    refine ⟨fa', cf', ba', cb', ta', ct', ?_, ?_, ?_, ?_, k⟩
    · unfold mlN mlF mlO mlB mlT; rw [if_pos h0, if_pos h0, if_pos h0, if_pos h0, if_pos h0, h0, hl]
    · unfold mlF; rw [if_pos h0]; exact h1
    · unfold mlB; rw [if_pos h0]; exact h2
    · unfold mlT; rw [if_pos h0]; exact h3
  · refine ⟨none, 0, none, 0, none, 0, ?_, ?_, ?_, ?_, k⟩
    · unfold mlN mlF mlO mlB mlT; rw [if_neg h0, if_neg h0, if_neg h0, if_neg h0, if_neg h0]; rfl
    · unfold mlF; rw [if_neg h0]; intro j hj; simp at hj
    · unfold mlB; rw [if_neg h0]; intro j hj; simp at hj
    · unfold mlT; rw [if_neg h0]; intro j hj; simp at hj
theorem ml_len {fs : List ByteArray} {base : List Int} {ts : List (Int × List Nd)} (h1 : fs.length ≤ 8796093022208) (h2 : base.length ≤ 17592186044416) (h3 : ts.length ≤ 4398046511104) : (mlF fs ts).length ≤ 8796093022208 ∧ (mlB base ts).length ≤ 17592186044416 ∧ (mlT ts).length ≤ 4398046511104 := by
  unfold mlF mlB mlT
  split
  · refine ⟨h1, h2, ?_⟩
    simp [mdT]; exact h3
  · simp
end Go.Proofs.Ytbchinfmdioijaa
set_option linter.unusedVariables false
set_option linter.unusedSimpArgs false
namespace Go.Proofs.Ytbchinfmdioijaa
open Go.RowKit Go.Shelf
theorem Alike_same (a b : Option Addr) (ca cb : Nat) (o : Int) (L : List Nd) (w : World) (hLn : L.length ≤ 2199023255552) (ra : RdN w a L) (rb : RdN w b L) :
    Calls Try.prog 40 #[.agg #[.int .i64 o, .slice a L.length ca], .agg #[.int .i64 o, .slice b L.length cb]] w fun e w' => e = .returned (.bool true) ∧ Keep w w' := by
  have h := Alike_any a b ca cb o o L L w hLn ra rb
  rw [@decide_eq_true _ (Classical.propDecidable _) ⟨rfl, rfl⟩] at h
  exact h
set_option maxRecDepth 100000 in
set_option maxHeartbeats 2000000 in
theorem law_copies (a : Option Addr) (cap : Nat) (out : Int) (L : List Nd) (hLn : L.length ≤ 1759218604441) (w : World) (hrd : RdN w a L) :
    Calls Try.prog 11 #[.agg #[.int .i64 out, .slice a L.length cap]] w fun e w' => e = .returned (.bool true) ∧ Keep w w' := by
  have hL2 : L.length ≤ 2199023255552 := by omega
  have hCp := fun (wx : World) (k : Keep w wx) => copied_any a cap out L wx hLn (hrd.keep k)
  have hCt := fun (wx : World) (k : Keep w wx) => Canon_any a cap out L hL2 wx (hrd.keep k)
  have k0 : Keep w (w.alloc (Obj.cells #[Value.int IntKind.i64 out, Value.slice a L.length cap] 24)) := (Keep.refl w).alloc _
  have tb : (w.alloc (Obj.cells #[Value.int IntKind.i64 out, Value.slice a L.length cap] 24)).heap[w.heap.size]? = some (Obj.cells #[Value.int IntKind.i64 out, Value.slice a L.length cap] 24 (0, 0)) := heap_alloc_new w _
  have hNl := cnoN_len L hL2
  go_enter Try.func11, Try.ntmps11
  go_wp2_with fail
  generalize w.alloc _ = w1 at k0 tb ⊢
  refine (hCp _ k0).mono ?_
  rintro e w2 ⟨a2, c2, rfl, hc2, r2, k2⟩
  have hCc := fun (wx : World) (k : Keep w2 wx) => Canon_any a2 c2 out L hL2 wx (r2.keep k)
  generalize cnoN L = M at *
  generalize cnoO L out = o' at *
  generalize shE L = E at *
  have k02 := k0.trans k2
  have hz1 : w.heap.size < w1.heap.size := (Array.getElem?_eq_some_iff.1 tb).1
  have tb2 := (k2.block _ hz1).trans tb
  go_wp2_with fail
  refine (hCc _ (Keep.refl _)).mono ?_
  rintro e w3 ⟨a3, c3, rfl, hc3, r3, k3, -⟩
  have hz2 : w.heap.size < w2.heap.size := (Array.getElem?_eq_some_iff.1 tb2).1
  have tb3 := (k3.block _ hz2).trans tb2
  have kb : Keep w3 (w3.alloc (Obj.cells #[Value.int IntKind.i64 o', Value.slice a3 M.length c3] 24)) := (Keep.refl w3).alloc _
  have tc : (w3.alloc (Obj.cells #[Value.int IntKind.i64 o', Value.slice a3 M.length c3] 24)).heap[w3.heap.size]? = some (Obj.cells #[Value.int IntKind.i64 o', Value.slice a3 M.length c3] 24 (0, 0)) := heap_alloc_new w3 _
  have hz3 : w.heap.size < w3.heap.size := (Array.getElem?_eq_some_iff.1 tb3).1
  have tb4 := (kb.block _ hz3).trans tb3
  have b0 := cell_of_row _ _ 0 _ 24 (0, 0) tb4
  have b1 := cell_of_row _ _ 1 _ 24 (0, 0) tb4
  simp only [List.getElem?_toArray, List.getElem?_cons_zero, List.getElem?_cons_succ] at b0 b1
  replace tb : Hid _ := tb
  replace tb2 : Hid _ := tb2
  replace tb3 : Hid _ := tb3
  replace tb4 : Hid _ := tb4
  replace tc : Hid _ := tc
  go_wp2_with fail
  generalize w3.alloc _ = w4 at kb tc tb4 b0 b1 ⊢
  have k04 := k02.trans (k3.trans kb)
  refine (hCt _ k04).mono ?_
  rintro e w5 ⟨a5, c5, rfl, hc5, r5, k5, -⟩
  have hz4 : w3.heap.size < w4.heap.size := (Array.getElem?_eq_some_iff.1 tc.out).1
  have hz4' : w.heap.size < w4.heap.size := (Array.getElem?_eq_some_iff.1 tb4.out).1
  have kd : Keep w5 (w5.alloc (Obj.cells #[Value.int IntKind.i64 o', Value.slice a5 M.length c5] 24)) := (Keep.refl w5).alloc _
  have td : (w5.alloc (Obj.cells #[Value.int IntKind.i64 o', Value.slice a5 M.length c5] 24)).heap[w5.heap.size]? = some (Obj.cells #[Value.int IntKind.i64 o', Value.slice a5 M.length c5] 24 (0, 0)) := heap_alloc_new w5 _
  have k45 := k5.trans kd
  have tb6 := (k45.block _ hz4').trans tb4.out
  have tc6 := (k45.block _ hz4).trans tc.out
  have r36 := r3.keep (kb.trans k45)
  have r56 := r5.keep kd
  have k06 := k04.trans k45
  clear hCc hCt b0 b1
  replace tb6 : Hid _ := tb6
  replace tc6 : Hid _ := tc6
  replace td : Hid _ := td
  go_wp2_with fail
  generalize w5.alloc _ = w6 at kd td tb6 tc6 r36 r56 k06 k45 ⊢
  have b0 := cell_of_row _ _ 0 _ 24 (0, 0) tb6.out
  have b1 := cell_of_row _ _ 1 _ 24 (0, 0) tb6.out
  have c0 := cell_of_row _ _ 0 _ 24 (0, 0) tc6.out
  have c1 := cell_of_row _ _ 1 _ 24 (0, 0) tc6.out
  have d0 := cell_of_row _ _ 0 _ 24 (0, 0) td.out
  have d1 := cell_of_row _ _ 1 _ 24 (0, 0) td.out
  simp only [List.getElem?_toArray, List.getElem?_cons_zero, List.getElem?_cons_succ] at b0 b1 c0 c1 d0 d1
  generalize w.heap.size = s1 at b0 b1 ⊢
  generalize w3.heap.size = s2 at c0 c1 ⊢
  generalize w5.heap.size = s3 at d0 d1 ⊢
  have LV := lives_any
  have hCp6 := fun (wx : World) (k : Keep w6 wx) => hCp wx (k06.trans k)
  clear hCp
  go_region_held3 (fun wx => Keep w6 wx ∧ wx.cell? ⟨s1, 0, none⟩ = some (Value.int .i64 out) ∧ wx.cell? ⟨s1, 1, none⟩ = some (Value.slice a L.length cap) ∧ wx.cell? ⟨s2, 0, none⟩ = some (Value.int .i64 o') ∧ wx.cell? ⟨s2, 1, none⟩ = some (Value.slice a3 M.length c3) ∧ wx.cell? ⟨s3, 0, none⟩ = some (Value.int .i64 o') ∧ wx.cell? ⟨s3, 1, none⟩ = some (Value.slice a5 M.length c5)) (first | exact ⟨(Keep.refl w6).drew, b0, b1, c0, c1, d0, d1⟩ | exact SK4 | exact SK3 | exact SK2 | exact SK1) (first
    | (go_at_call 14; refine (LV _).mono ?_; rintro e wA ⟨rfl, kA⟩; have kA0 := (Keep.refl w6).drew.trans kA; have SK1 := mk7 kA0 (kA0.cell b0) (kA0.cell b1) (kA0.cell c0) (kA0.cell c1) (kA0.cell d0) (kA0.cell d1))
    | (go_at_call 42; refine (hCp6 _ kA0).mono ?_; rintro e wB ⟨a7, c7, rfl, hc7, r7, kB⟩; have kB0 := kA0.trans kB; have SK2 := mk7 kB0 (kB0.cell b0) (kB0.cell b1) (kB0.cell c0) (kB0.cell c1) (kB0.cell d0) (kB0.cell d1))
    | (go_at_call 40; refine (Alike_same _ _ _ _ _ _ _ ?_ ?_ ?_).mono ?_; exact hNl; exact r36.keep kC0; exact r56.keep kC0; rintro e wD ⟨rfl, kD⟩; have kD0 := kC0.trans kD; have SK4 := mk7 kD0 (kD0.cell b0) (kD0.cell b1) (kD0.cell c0) (kD0.cell c1) (kD0.cell d0) (kD0.cell d1))
    | (go_at_call 40; refine (Alike_same _ _ _ _ _ _ _ ?_ ?_ ?_).mono ?_; exact hL2; exact hrd.keep (k06.trans kB0); exact r7; rintro e wC ⟨rfl, kC⟩; have kC0 := kB0.trans kC; have SK3 := mk7 kC0 (kC0.cell b0) (kC0.cell b1) (kC0.cell c0) (kC0.cell c1) (kC0.cell d0) (kC0.cell d1)))
  all_goals
    go_simp
    go_wp2_with fail
    go_ret
    exact ⟨ret_bool (by simp), k06.trans kD0⟩
end Go.Proofs.Ytbchinfmdioijaa
set_option linter.unusedVariables false
set_option linter.unusedSimpArgs false
namespace Go.Proofs.Ytbchinfmdioijaa
open Go.RowKit Go.Shelf
theorem rSame_self (nm : ByteArray) (fa1 : Option Addr) (fs : List ByteArray) (cf1 : Nat) (N : Int) (ba1 : Option Addr) (bs : List Int) (cb1 : Nat) (ta1 : Option Addr) (ts : List (Int × List Nd)) (ct1 : Nat) (fa2 : Option Addr) (cf2 : Nat) (ba2 : Option Addr) (cb2 : Nat) (ta2 : Option Addr) (ct2 : Nat) (w : World)
    (hf1 : RdS w fa1 fs) (hfl : fs.length ≤ 8796093022208) (hb1 : RdI w ba1 bs) (hbl : bs.length ≤ 17592186044416) (ht1 : RdT w ta1 ts) (htl : ts.length ≤ 4398046511104) (hf2 : RdS w fa2 fs) (hb2 : RdI w ba2 bs) (ht2 : RdT w ta2 ts) :
    Calls Try.prog 32 #[ens nm fa1 fs.length cf1 N ba1 bs.length cb1 ta1 ts.length ct1, ens nm fa2 fs.length cf2 N ba2 bs.length cb2 ta2 ts.length ct2] w fun e w' => e = .returned (.bool true) ∧ Keep w w' := by
  have h := rSame_any nm fa1 fs cf1 N ba1 bs cb1 ta1 ts ct1 nm fa2 fs cf2 N ba2 bs cb2 ta2 ts ct2 w hf1 hfl hb1 hbl ht1 htl hf2 hb2 ht2
  rw [@decide_eq_true (EnsEq nm fs N bs ts nm fs N bs ts) (Classical.propDecidable _) ⟨rfl, rfl, rfl, rfl, rfl⟩] at h
  exact h
theorem Same_self (nm : ByteArray) (fa1 : Option Addr) (fs : List ByteArray) (cf1 : Nat) (N : Int) (ba1 : Option Addr) (bs : List Int) (cb1 : Nat) (ta1 : Option Addr) (ts : List (Int × List Nd)) (ct1 : Nat) (fa2 : Option Addr) (cf2 : Nat) (ba2 : Option Addr) (cb2 : Nat) (ta2 : Option Addr) (ct2 : Nat) (w : World)
    (hf1 : RdS w fa1 fs) (hfl : fs.length ≤ 8796093022208) (hb1 : RdI w ba1 bs) (hbl : bs.length ≤ 17592186044416) (ht1 : RdT w ta1 ts) (htl : ts.length ≤ 4398046511104) (hf2 : RdS w fa2 fs) (hb2 : RdI w ba2 bs) (ht2 : RdT w ta2 ts) :
    Calls Try.prog 35 #[ens nm fa1 fs.length cf1 N ba1 bs.length cb1 ta1 ts.length ct1, ens nm fa2 fs.length cf2 N ba2 bs.length cb2 ta2 ts.length ct2] w fun e w' => e = .returned (.bool true) ∧ Keep w w' := by
  have h := Same_any nm fa1 fs cf1 N ba1 bs cb1 ta1 ts ct1 nm fa2 fs cf2 N ba2 bs cb2 ta2 ts ct2 w hf1 hfl hb1 hbl ht1 htl hf2 hb2 ht2
  rw [@decide_eq_true (EnsEq nm fs N bs ts nm fs N bs ts) (Classical.propDecidable _) ⟨rfl, rfl, rfl, rfl, rfl⟩] at h
  exact h
end Go.Proofs.Ytbchinfmdioijaa
