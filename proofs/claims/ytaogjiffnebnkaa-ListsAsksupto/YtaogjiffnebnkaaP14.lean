import Derived.Test.YtaogjiffnebnkaaP13
set_option linter.unusedVariables false
set_option linter.unusedSimpArgs false
namespace Go.Proofs.Ytaogjiffnebnkaa
open Go.RowKit Go.Shelf
attribute [local go_sem] run_store_float
/-- A list of one cut. -/
theorem OC.one {N : Ct} {w : World} {v : Value} {wr : World} {K : List (Ct × Option Addr × Nat)} (h : OC [N] w v wr K) : ∃ va c g cg, v = .slice (some ⟨g, 0, none⟩) 1 cg ∧ K = [(N, va, c)] ∧ OwnZ 3 w.heap.size wr (.slice va N.cs.length c) N.cs ∧ ∀ j u, (UC [(N, va, c)])[j]? = some u → wr.cell? ((⟨g, 0, none⟩ : Addr).add j) = some u := by
  have hl := h.len
  obtain ⟨r, rfl⟩ : ∃ r, K = [r] := by
    match K, hl with
    | [r], _ => exact ⟨r, rfl⟩
  have e := h.eq
  simp only [List.map_cons, List.map_nil, List.cons.injEq, and_true] at e
  obtain ⟨M, va, c⟩ := r
  simp only at e
  subst e
  obtain ⟨a, cg, ev, -, hr⟩ := h.own.shape
  obtain ⟨g, rfl, hu⟩ := hr 0 (by simp)
  refine ⟨va, c, g, cg, ev, rfl, (h.cats _ (List.mem_singleton.2 rfl)).1, ?_⟩
  intro j u hj
  have hj5 : j < 5 := by
    have := (List.getElem?_eq_some_iff.1 hj).1
    simpa [UC] using this
  have := hu j u hj5 hj
  rw [Go.WideShapes.add_plain, Nat.zero_add]
  simpa using this
set_option maxRecDepth 100000 in
set_option maxHeartbeats 4000000 in
theorem rFalse_any (F : Int) (na : Option Addr) (L : List Ct) (nc : Nat) (ca : Option Addr) (C : List Ct) (cc : Nat) (la : Option Addr) (O : List Ct) (lc : Nat) (x : Nat) (w : World) (hL : L.length ≤ 1048576) (hC : C.length ≤ 1048576) (hO : O.length ≤ 1048576) (hnc : L.length ≤ nc) (hcp : C.length ≤ cc) (rn : RdC w na L) (rc : RdC w ca C) (rl : RdC w la O) :
    Calls Try.prog 21 #[lst F na L.length nc ca C.length cc la O.length lc, .float .f64 x] w fun e w' => ∃ v, e = .returned v ∧ ∃ K, OC (fls L C O x) w v w' K := by
  have hF := fun (wx : World) (k : Keep w wx) => rFirst_any F na L nc ca C.length cc la O.length lc x wx hL (rn.keep k)
  have hfl := fst_le L x
  have hCp := fun (wx : World) (k : Keep w wx) => Copied_any na nc (L.take (fst L x)) wx (by rw [List.length_take]; omega) ((rn.keep k).take _)
  have hCl := fun (wx : World) (k : Keep w wx) => Copied_any la lc O wx hO (rl.keep k)
  have htl : (L.take (fst L x)).length = fst L x := by rw [List.length_take]; omega
  rw [htl] at hCp
  unfold lst at hF ⊢
  obtain ⟨w1, hw1, k0, tb⟩ : ∃ w1, w.alloc (Obj.cells #[Value.int IntKind.i64 F, Value.slice na L.length nc, Value.slice ca C.length cc, Value.slice la O.length lc] 33) = w1 ∧ Keep w w1 ∧ w1.heap[w.heap.size]? = some (Obj.cells #[Value.int IntKind.i64 F, Value.slice na L.length nc, Value.slice ca C.length cc, Value.slice la O.length lc] 33 (0, 0)) := ⟨_, rfl, (Keep.refl w).alloc _, heap_alloc_new w _⟩
  have b0 := cell_of_row _ _ 0 _ 33 (0, 0) tb
  have b1 := cell_of_row _ _ 1 _ 33 (0, 0) tb
  have b2 := cell_of_row _ _ 2 _ 33 (0, 0) tb
  have b3 := cell_of_row _ _ 3 _ 33 (0, 0) tb
  simp only [List.getElem?_toArray, List.getElem?_cons_zero, List.getElem?_cons_succ] at b0 b1 b2 b3
  replace hw1 : Hid _ := hw1
  clear tb
  cases hn : nanB x
  · have HR : Hid (fls L C O x = L.take (fst L x) ++ chs C x) := by show _ = _; unfold fls; rw [hn]; rfl
    have he2 : (FloatKind.f64.format.order x x != some Ordering.eq) = false := by
      have he : (FloatKind.f64.format.order x x == some .eq) = true := by unfold nanB at hn; simpa using hn
      rw [bne, he]; rfl
    generalize hf : fst L x = f at *
    have hfn : f ≤ nc := by omega
    generalize hTL : L.take f = TL at *
    go_enter Try.func21, Try.ntmps21
    go_wp2_with fail
    rw [hw1.out]
    have KD := (Keep.refl w1).drew
    have T0 := mk5 KD (KD.cell b0) (KD.cell b1) (KD.cell b2) (KD.cell b3)
    have hCp' := hCp
    clear hCl
    go_region_held3 (fun wx => Keep w1 wx ∧ wx.cell? ⟨w.heap.size, 0, none⟩ = some (Value.int IntKind.i64 F) ∧ wx.cell? ⟨w.heap.size, 1, none⟩ = some (Value.slice na L.length nc) ∧ wx.cell? ⟨w.heap.size, 2, none⟩ = some (Value.slice ca C.length cc) ∧ wx.cell? ⟨w.heap.size, 3, none⟩ = some (Value.slice la O.length lc)) (first | with_reducible exact T0 | with_reducible exact T2 | with_reducible exact T1) (first | (go_at_call 14; refine (hCp _ (k0.trans K1)).mono ?_; rintro e w3 ⟨v, rfl, K, hOC⟩; have K2 := K1.trans hOC.kp; have T2 := mk5 K2 (K2.cell b0) (K2.cell b1) (K2.cell b2) (K2.cell b3)) | (go_at_call 16; refine (hF _ (k0.trans KD)).mono ?_; rintro e w2 ⟨rfl, j1⟩; have K1 := KD.trans j1; have T1 := mk5 K1 (K1.cell b0) (K1.cell b1) (K1.cell b2) (K1.cell b3)))
    go_simp
    have hOC1 := hOC.base K1
    have b2' := K2.cell b2
    have hTn : TL.length ≤ 1048576 := by rw [htl]; omega
    clear T0 T1 T2 b0 b1 b3 hCp hCp' hF hOC
    go_wp2_with fail
    go_loopw [5, 6] (fun v iv wr => ∃ (k : Nat) (K : List (Ct × Option Addr × Nat)), k ≤ C.length ∧ iv = .int .i64 k ∧ OC (TL ++ chs (C.take k) x) w1 v wr K) (fun _ iv _ => C.length - (intOf iv).toNat)
    case atStart => exact ⟨0, K, by omega, rfl, by simpa [chs] using hOC1⟩
    case round =>
      obtain ⟨k, K', hk, rfl, hI⟩ := hrel
      by_cases hkl : k < C.length
      · have hkc : (k : Int) < (C.length : Int) := by omega
        obtain ⟨b, o, ca', cp', rfl, hnd⟩ := (rc.keep (k0.trans hI.kp)) k hkl
        have b2r := hI.kp.cell b2
        have hst := chs_snoc hkl x
        have hKl : K'.length + 1 ≤ 1099511627776 := by
          have h1 := hI.len
          have h2 : (chs (C.take k) x).length ≤ k := by
            unfold chs
            exact Nat.le_trans (List.length_filter_le _ _) (by rw [List.length_take]; omega)
          rw [List.length_append] at h1
          omega
        generalize C.getD k cd0 = N at *
        have c0 := hnd.c0
        have c1 := hnd.c1
        have c2 := hnd.c2
        have c3 := hnd.c3
        have c4 := hnd.c4
        have hA := rin_any ca' cp' N.cs x wr hnd.sz hnd.rd
        have hsz := hnd.sz
        have hB4 := hI.kp.le
        have hk1 : k + 1 ≤ cc := by omega
        have r1 : ∀ wx, Keep wr wx → RdC wx (some ⟨b, o + k * 5, none⟩) [N] := by
          intro wx kx j hj
          obtain rfl : j = 0 := by simpa using hj
          exact ⟨b, o + k * 5, ca', cp', rfl, by simpa using hnd.keep kx⟩
        have hCo := fun (wx : World) (kx : Keep wr wx) => Copied_any (some ⟨b, o + k * 5, none⟩) (cc - k) [N] wx (by simp) (r1 wx kx)
        simp only [List.length_cons, List.length_nil, Nat.zero_add] at hCo
        clear hnd r1
        cases ham : amB N.cs x
        · rw [ham] at hA
          have HS : Hid (chs (C.take (k + 1)) x = chs (C.take k) x ++ [N]) := by show _ = _; rw [hst, ham]; rfl
          clear hst ham
          go_wp2_with (first | (go_at_call 44; refine hA.mono ?_; rintro e w2 ⟨rfl, k2⟩; have b2r := k2.cell b2r) | (go_at_call 14; refine (hCo _ k2).mono ?_; rintro e w4 ⟨v2, rfl, KK, hOC2⟩; obtain ⟨va, c4', gg, cg, ev, eK, hOv, hnews⟩ := hOC2.one; subst ev; have k4 := hOC2.kp) | (at_builtin; refine wpList_appC w1.heap.size _ rfl _ _ rfl K' (N, va, c4') u5 ?_ (hI.own.keep (k2.trans k4)) (Nat.le_trans hB4 (k2.trans k4).le) ⟨gg, 0, none⟩ cg ?_ hnews hKl ?_; rotate_left 2; intro v5 w5 hO5 g5 hv5))
          all_goals first
            | rfl
            | (go_roundw
               case rel =>
                 refine ⟨k + 1, K' ++ [(N, va, c4')], by omega, by go_num, ?_⟩
                 rw [HS.out, ← List.append_assoc]
                 exact hI.step (k2.trans k4) hsz (hOv.mono (Nat.le_trans hB4 k2.le)) hO5 g5
               case measure => simp [intOf]; omega)
        · rw [ham] at hA
          have HS : Hid (chs (C.take (k + 1)) x = chs (C.take k) x) := by show _ = _; rw [hst, ham]; rfl
          clear hst ham
          go_wp2_with (go_at_call 44; refine hA.mono ?_; rintro e w2 ⟨rfl, k2⟩)
          go_roundw
          case rel => exact ⟨k + 1, K', by omega, by go_num, by rw [HS.out]; exact hI.keep k2⟩
          case measure => simp [intOf]; omega
      · have hkc : ¬ (k : Int) < (C.length : Int) := by omega
        obtain rfl : k = C.length := by omega
        rw [List.take_length] at hI
        have b2r := hI.kp.cell b2
        go_wp2_with fail
        go_ret
        exact ⟨_, rfl, K', by rw [HR.out]; exact hI.base k0⟩
  · have HR : Hid (fls L C O x = O) := by show _ = _; unfold fls; rw [hn]; rfl
    have he2 : (FloatKind.f64.format.order x x != some Ordering.eq) = true := by
      have he : (FloatKind.f64.format.order x x == some .eq) = false := by unfold nanB at hn; simpa using hn
      rw [bne, he]; rfl
    rw [← hw1.out] at b3
    go_enter Try.func21, Try.ntmps21
    go_wp2_with (go_at_call 14; rw [hw1.out]; refine (hCl _ k0).mono ?_; rintro e w3 ⟨v, rfl, K, hOC⟩)
    go_ret
    exact ⟨_, rfl, K, by rw [HR.out]; exact hOC.base k0⟩
end Go.Proofs.Ytaogjiffnebnkaa
