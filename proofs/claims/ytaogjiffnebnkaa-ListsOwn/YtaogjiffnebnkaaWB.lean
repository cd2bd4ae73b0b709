import Derived.Test.YtaogjiffnebnkaaR5
import Derived.Test.YtaogjiffnebnkaaWA
import Derived.Test.YtaogjiffnebnkaaW3
import Derived.Test.YtaogjiffnebnkaaR11
set_option linter.unusedVariables false
set_option linter.unusedSimpArgs false
namespace Go.Proofs.Ytaogjiffnebnkaa.Ow
open Go.RowKit Go.Shelf Go.Maps
attribute [local go_sem] run_store_float
theorem wrap_up {k n : Nat} (h : n ≤ 4096) (h1 : k + 1 ≤ n) : wrap64 ((k : Int) + 1) = ((k + 1 : Nat) : Int) := by
  unfold wrap64; omega
theorem left_down {k n : Nat} (h1 : k + 1 ≤ n) : n - (((k + 1 : Nat) : Int)).toNat < n - ((k : Int)).toNat := by omega
set_option maxRecDepth 100000 in
set_option maxHeartbeats 4000000 in
theorem take_any (w0 w : World) (mb : Nat) (X : GX) (S : List (Nd × Ct)) (hG : GI w0.heap.size w mb X) (hC : ConD X S) (k0 : Keep w0 w) (a : Option Addr) (cap : Nat) (out nr F : Int) (L : List Nd) (hLn : L.length ≤ 2199023255552) (hrd : RdN w0 a L) (hS : S.length ≤ 268435456) (hXS : X.n ≤ S.length) :
    Calls Try.prog 33 #[.map (some mb), .agg #[.int .i64 out, .slice a L.length cap], .int .i64 nr, .int .i64 F] w fun e w' => e = .returned (.int .i64 (tkE L F)) ∧ Keep w0 w' ∧ KT w w' ∧ (tkE L F = 0 → ∃ X', GI w0.heap.size w' mb X' ∧ ConD X' (S ++ gat L nr) ∧ X'.n ≤ S.length + (gat L nr).length) := by
  have kb : Keep w (w.alloc (Obj.cells #[Value.int IntKind.i64 out, Value.slice a L.length cap] 54)) := (Keep.refl w).alloc _
  have tb : (w.alloc (Obj.cells #[Value.int IntKind.i64 out, Value.slice a L.length cap] 54)).heap[w.heap.size]? = some (Obj.cells #[Value.int IntKind.i64 out, Value.slice a L.length cap] 54 (0, 0)) := heap_alloc_new w _
  have hM := Mk.Marks_any a cap out (L.map Nd.m) (by simpa using hLn) _ ((hrd.keep k0).keep kb).m
  rw [List.length_map] at hM
  go_enter Try.func33, Try.ntmps33
  go_wp2_with fail
  generalize w.alloc (Obj.cells #[Value.int IntKind.i64 out, Value.slice a L.length cap] 54) = w1 at *
  refine hM.mono ?_
  rintro e w2 ⟨v, l, rfl, hO, hl0, hl1, k2⟩
  replace k2 : Keep w1 w2 := k2
  have k02 : Keep w0 w2 := Keep.trans (Keep.trans k0 kb) k2
  have hG2 := (hG.keep kb).keep k2
  have kt2 : KT w w2 := (KT.of_keep kb).trans (KT.of_keep k2)
  have t2 := (k2.block _ (Array.getElem?_eq_some_iff.1 tb).1).trans tb
  by_cases hE : trE L = 0
  · have c1 : (Mk.lvE (L.map Nd.m) != 0) = false := by rw [bne_eq_false_iff_eq]; exact hE
    obtain ⟨hml, hmm⟩ := mkl_ok hE
    obtain rfl : l = mkl L := by
      obtain ⟨-, -, -, b, hb, -, -⟩ := Mk.lvE_ok hE
      rw [mkl_of hb]; exact hl1 b hE hb
    obtain ⟨av, cv, rfl, hcv, -⟩ := hO.shape
    replace hml : Hid _ := hml
    replace hmm : Hid _ := hmm
    replace hE : Hid _ := hE
    replace t2 : Hid _ := t2
    clear hl0 hl1 hM
    obtain ⟨n, hn⟩ : ∃ n, (mkl L).length = n := ⟨_, rfl⟩
    rw [hn] at hO hcv ⊢
    go_wp2_with fail
    go_loopw [24] (fun iv wr => ∃ (k : Nat) (Xk : GX), iv = .int .i64 (k : Int) ∧ k ≤ n ∧ GI w0.heap.size wr mb Xk ∧ Hid (ConD Xk (S ++ (gat L nr).take k)) ∧ Hid (Xk.n ≤ S.length + k) ∧ Keep w0 wr ∧ KT w2 wr ∧ Hid (∀ j, j < k → (L.getD ((mkl L).getD j Mk.m0).1 nd0).ft < F)) (fun iv _ => n - (intOf iv).toNat)
    case atStart => exact ⟨0, X, rfl, by omega, hG2, by show ConD _ _; simpa using hC, hXS, k02, KT.refl _, fun j hj => by omega⟩
    case round =>
      obtain ⟨k, Xk, rfl, hk, hGk, hCk, hXk, kw, kt, hlt⟩ := hrel
      by_cases hkl : k < n
      · have hkc : (k : Int) < (n : Int) := by omega
        have hk1 : Hid (k + 1 ≤ n) := hkl
        obtain ⟨av', cv', e1, -, hR⟩ := (OwnM_kt hO kt).shape
        simp only [Value.slice.injEq] at e1
        obtain ⟨rfl, -, -⟩ := e1
        obtain ⟨bm, om, rfl, m0, m1, m2⟩ := hR k (by rw [hn]; exact hkl)
        have hmem : (mkl L).getD k Mk.m0 ∈ mkl L := by
          have : (mkl L).getD k Mk.m0 = (mkl L)[k]'(by rw [hn]; exact hkl) := by simp [List.getD, hn, hkl]
          rw [this]; exact List.getElem_mem _
        obtain ⟨f1, f2, f3, f4, f5⟩ := hmm.out _ hmem
        have HT : Hid ((gat L nr).take (k + 1) = (gat L nr).take k ++ [mct L nr ((mkl L).getD k Mk.m0)]) := by
          show _ = _
          unfold gat
          rw [List.take_add_one]
          simp [List.getD, hn, hkl]
        have HL : Hid (∀ j, j < k + 1 → (L.getD ((mkl L).getD k Mk.m0).1 nd0).ft < F → (L.getD ((mkl L).getD j Mk.m0).1 nd0).ft < F) := by
          intro j hj h
          by_cases q : j = k
          · rw [q]; exact h
          · exact hlt.out j (by omega)
        have HX : Hid (F ≤ (L.getD ((mkl L).getD k Mk.m0).1 nd0).ft → tkE L F = 72) := by
          intro h
          unfold tkE
          rw [if_neg (by simpa using hE.out), if_pos ⟨_, hmem, h⟩]
        unfold mct at HT
        generalize (mkl L).getD k Mk.m0 = m at *
        have hmi : ((m.1 : Nat) : Int) < (L.length : Int) := by omega
        obtain ⟨bn, on, ca, cp, rfl, hnd⟩ := hrd m.1 f1
        have hnw := hnd.keep kw
        generalize L.getD m.1 nd0 = d at *
        have c0 := hnw.c0
        have c1' := hnw.c1
        have c2 := hnw.c2
        have c3 := hnw.c3
        have c4 := hnw.c4
        have c5 := hnw.c5
        have c6 := hnw.c6
        have c7 := hnw.c7
        have tr := kt.kp _ _ _ t2.out (by decide) (by decide)
        have d0 := cell_of_row wr _ 0 _ 54 (0, 0) tr
        have d1 := cell_of_row wr _ 1 _ 54 (0, 0) tr
        simp at d0 d1
        obtain ⟨w4, hw4, k4, s4, r0, r1⟩ := boxes2n wr #[Value.int .i64 (m.1 : Nat), .int .i64 (m.2.1 : Nat), .int .i64 (m.2.2 : Nat)] #[Value.int .u8 d.kd, .int .i64 d.vl, .int .i64 d.ft, .float .f64 d.th, .slice ca d.cs.length cp, .int .u8 d.ms, .int .i64 d.lf, .int .i64 d.rt] 59 83
        have hA := add_any w0 w4 mb Xk (S ++ (gat L nr).take k) (hGk.keep k4) hCk.out (Keep.trans kw k4) d ca cp ⟨d.th, d.cs, nr, (m.2.1 : Nat), (m.2.2 : Nat)⟩ ca cp ⟨f4, f5⟩ hnd.rd hnd.sz hnd.cp (by have := hml.out; rw [List.length_append, List.length_take]; omega) (by have := hXk.out; have := hml.out; omega)
        unfold Ct.v Nd.v at hA
        obtain ⟨wA, hwA⟩ : ∃ wA, wr.alloc (Obj.cells #[Value.int .i64 (m.1 : Nat), .int .i64 (m.2.1 : Nat), .int .i64 (m.2.2 : Nat)] 59) = wA := ⟨_, rfl⟩
        have kA : Keep wr wA := by rw [← hwA]; exact (Keep.refl wr).alloc _
        have rA : wA.heap[wr.heap.size]? = some (Obj.cells #[Value.int .i64 (m.1 : Nat), .int .i64 (m.2.1 : Nat), .int .i64 (m.2.2 : Nat)] 59 (0, 0)) := by rw [← hwA]; exact heap_alloc_new wr _
        have A0 := kA.cell d1
        have A1 := cell_of_row wA _ 0 _ 59 (0, 0) rA
        have A2 := kA.cell c0
        have A3 := kA.cell c1'
        have A4 := kA.cell c2
        have A5 := kA.cell c3
        have A6 := kA.cell c4
        have A7 := kA.cell c5
        have A8 := kA.cell c6
        have A9 := kA.cell c7
        have B0 := cell_of_row w4 _ 0 _ 83 (0, 0) r1
        have B1 := cell_of_row w4 _ 1 _ 83 (0, 0) r1
        have B2 := cell_of_row w4 _ 2 _ 83 (0, 0) r1
        have B3 := cell_of_row w4 _ 3 _ 83 (0, 0) r1
        have B4 := cell_of_row w4 _ 4 _ 83 (0, 0) r1
        have B5 := cell_of_row w4 _ 5 _ 83 (0, 0) r1
        have B6 := cell_of_row w4 _ 6 _ 83 (0, 0) r1
        have B7 := cell_of_row w4 _ 7 _ 83 (0, 0) r1
        have B8 := cell_of_row w4 _ 1 _ 59 (0, 0) r0
        have B9 := cell_of_row w4 _ 2 _ 59 (0, 0) r0
        simp at A1 B0 B1 B2 B3 B4 B5 B6 B7 B8 B9
        rw [← hwA] at A0 A1 A2 A3 A4 A5 A6 A7 A8 A9
        rw [← hw4] at B0 B1 B2 B3 B4 B5 B6 B7 B8 B9
        replace hw4 : Hid _ := hw4
        replace r0 : Hid _ := r0
        replace r1 : Hid _ := r1
        replace rA : Hid _ := rA
        replace hwA : Hid _ := hwA
        replace s4 : Hid _ := s4
        replace tr : Hid _ := tr
        clear c0 c1' c2 c3 c4 c5 c6 c7 d0 d1 hR
        by_cases hF : F ≤ d.ft
        · have hFc : F ≤ d.ft := hF
          go_wp2_with fail
          rw [hw4.out]
          have hx := HX.out hF
          go_ret
          exact ⟨by rw [hx]; rfl, Keep.trans kw k4, kt2.trans (kt.trans (KT.of_keep k4)), fun h => by rw [hx] at h; cases h⟩
        · have hFc : ¬ F ≤ d.ft := hF
          have hlt2 : d.ft < F := by omega
          go_wp2_with (first | (go_at_call 52; rw [hw4.out]; refine hA.mono ?_; rintro e w5 ⟨⟨v5, rfl⟩, X', g1, g2, g3, g4, g5⟩))
          have hb : n ≤ 4096 := by rw [← hn]; exact hml.out
          have hb1 := hk1.out
          have hw : wrap64 ((k : Int) + 1) = ((k + 1 : Nat) : Int) := wrap_up hb hb1
          rw [hw]
          refine ⟨⟨k + 1, X', rfl, hk1.out, g1, ?_, ?_, g3, kt.trans ((KT.of_keep k4).trans g4), fun j hj => HL.out j hj hlt2⟩, ?_⟩
          · show ConD _ _
            rw [HT.out, ← List.append_assoc]
            exact g2
          · exact Nat.le_trans g5 (Nat.succ_le_succ hXk.out)
          · show n - (((k + 1 : Nat) : Int)).toNat < n - ((k : Int)).toNat
            exact left_down hb1
      · have hkc : ¬ (k : Int) < (n : Int) := by omega
        obtain rfl : k = n := by omega
        have hx : Hid (tkE L F = 0) := by
          show _ = _
          unfold tkE
          rw [if_neg (by simpa using hE.out), if_neg ?_]
          rintro ⟨m, hm, h⟩
          obtain ⟨j, hj, rfl⟩ := List.getElem_of_mem hm
          have := hlt.out j (by omega)
          simp [List.getD, hj] at this
          simp [List.getD] at h
          omega
        have hg : Hid ((gat L nr).length = k) := by show _ = _; unfold gat; rw [List.length_map]; exact hn
        go_wp2_with fail
        go_ret
        refine ⟨by rw [hx.out]; rfl, kw, kt2.trans kt, fun _ => ⟨Xk, hGk, ?_, by rw [hg.out]; exact hXk.out⟩⟩
        have := hCk.out
        rw [← hg.out, List.take_length] at this
        exact this
  · have c1 : (Mk.lvE (L.map Nd.m) != 0) = true := bne_iff_ne.2 hE
    have hx : Hid (tkE L F = trE L) := by show _ = _; unfold tkE; rw [if_pos hE]
    replace hE : Hid _ := hE
    clear hM hl0 hl1
    go_wp2_with fail
    go_ret
    exact ⟨by rw [hx.out]; rfl, k02, kt2, fun h => absurd (hx.out.symm.trans h) hE.out⟩
end Go.Proofs.Ytaogjiffnebnkaa.Ow
set_option linter.unusedVariables false
set_option linter.unusedSimpArgs false
namespace Go.Proofs.Ytaogjiffnebnkaa.Ow
open Go.RowKit Go.Shelf Go.Maps
attribute [local go_sem] run_store_float
set_option maxRecDepth 100000 in
set_option maxHeartbeats 4000000 in
theorem Of_own (a : Option Addr) (cap : Nat) (ts : List (Int × List Nd)) (F : Int) (w : World) (ht : RdT w a ts) :
    Calls Try.prog 10 #[.slice a ts.length cap, .int .i64 F] w fun e w' => ∃ v, e = .returned (.tuple #[v, .int .i64 (ofE ts F)]) ∧ Keep w w' ∧ (ofE ts F ≠ 0 → v = .slice none 0 0) ∧ (ofE ts F = 0 → ∃ X A M, Con X (gall ts) ∧ LsAt w w' v X A M ∧ CD (X.wth M)) := by
  obtain ⟨n, hn⟩ : ∃ n, ts.length = n := ⟨_, rfl⟩
  rw [hn]
  by_cases h0 : F < 0 ∨ 65536 < F
  · have hx : Hid (ofE ts F = 2) := by show _ = _; unfold ofE; rw [if_pos h0]
    have hr : w = w := rfl
    by_cases h1 : F < 0
    · have c1 : F < 0 := h1
      clear h0
      go_enter Try.func10, Try.ntmps10
      go_wp2_with fail
      try simp only [Exit.inBlock, Exit.then]
      refine bodyPost_ret (results_tmp2 rfl _ _ _) rfl ?_
      exact ⟨_, by rw [hx.out]; rfl, Keep.refl w, fun _ => rfl, fun h => by rw [hx.out] at h; cases h⟩
    · have c1 : ¬ F < 0 := h1
      have c2 : 65536 < F := by omega
      clear h0
      go_enter Try.func10, Try.ntmps10
      go_wp2_with fail
      try simp only [Exit.inBlock, Exit.then]
      refine bodyPost_ret (results_tmp2 rfl _ _ _) rfl ?_
      exact ⟨_, by rw [hx.out]; rfl, Keep.refl w, fun _ => rfl, fun h => by rw [hx.out] at h; cases h⟩
  · have c1 : ¬ F < 0 := by omega
    have c2 : ¬ 65536 < F := by omega
    by_cases h2 : 65536 < n
    · have c3 : (65536 : Int) < (n : Int) := by omega
      have hx : Hid (ofE ts F = 3) := by show _ = _; unfold ofE; rw [if_neg h0, hn, if_pos h2]
      clear h0
      go_enter Try.func10, Try.ntmps10
      go_wp2_with fail
      try simp only [Exit.inBlock, Exit.then]
      refine bodyPost_ret (results_tmp2 rfl _ _ _) rfl ?_
      exact ⟨_, by rw [hx.out]; rfl, Keep.refl w, fun _ => rfl, fun h => by rw [hx.out] at h; cases h⟩
    · have c3 : ¬ (65536 : Int) < (n : Int) := by omega
      have hn6 : Hid (n ≤ 65536) := by show _ ≤ _; omega
      have hx : Hid (ofE ts F = firE ts F) := by show _ = _; unfold ofE; rw [if_neg h0, hn, if_neg h2]
      have hmm := @run_makeMap Try.prog
      have hG0 : Hid (GI w.heap.size (w.alloc (.map #[] 0)) w.heap.size GX.nil) := GI.nil _ w (Nat.le_refl _)
      have hk0 : Hid (Keep w (w.alloc (.map #[] 0))) := (Keep.refl w).alloc _
      clear h0
      replace ht : Hid _ := ht
      go_enter Try.func10, Try.ntmps10
      go_wp2_with fail
      go_loopw [24] (fun iv wr => ∃ (k : Nat) (X : GX), iv = .int .i64 (k : Int) ∧ k ≤ n ∧ GI w.heap.size wr w.heap.size X ∧ Hid (ConD X (gall (ts.take k))) ∧ Hid (X.n ≤ (gall (ts.take k)).length) ∧ Hid ((gall (ts.take k)).length ≤ k * 4096) ∧ Keep w wr ∧ Hid (∀ j, j < k → tkE (ts.getD j (0, [])).2 F = 0) ∧ Hid (∀ s ∈ gall (ts.take k), s.2.th < 18446744073709551616)) (fun iv _ => n - (intOf iv).toNat)
      case atStart => exact ⟨0, GX.nil, rfl, by omega, hG0.out, ⟨Con.nil, CD.nil⟩, Nat.le_refl _, Nat.le_refl _, hk0.out, fun j hj => by omega, fun s hs => by cases hs⟩
      case round =>
        obtain ⟨k, X, rfl, hk, hG, hC, hX, hgl, kw, hj, hth⟩ := hrel
        by_cases hkl : k < n
        · have hkc : (k : Int) < (n : Int) := by omega
          have hk1 : Hid (k + 1 ≤ n) := hkl
          have hkl' : k < ts.length := by omega
          obtain ⟨b, o, na, nc, rfl, t0, t1, hN, -, hsz, -⟩ := ht.out k hkl'
          have c5 := kw.cell t0
          have c6 := kw.cell t1
          have HT : Hid (ts.take (k + 1) = ts.take k ++ [ts.getD k (0, [])]) := by
            show _ = _
            rw [List.take_succ_eq_append_getElem hkl']; simp [List.getD, hkl']
          have HE : Hid (∀ j, j < k → tkE (ts.getD j (0, [])).2 F = 0) := hj
          have HF : Hid (tkE (ts.getD k (0, [])).2 F ≠ 0 → firE ts F = tkE (ts.getD k (0, [])).2 F) := fun h => firE_at ts k hkl' hj.out h
          have HJ : Hid (tkE (ts.getD k (0, [])).2 F = 0 → ∀ j, j < k + 1 → tkE (ts.getD j (0, [])).2 F = 0) := by
            intro h j hjk
            by_cases q : j = k
            · rw [q]; exact h
            · exact hj.out j (by omega)
          have HL : Hid ((ts.take k).length = k) := by show _ = _; rw [List.length_take]; omega
          generalize ts.getD k (0, []) = t at *
          obtain ⟨out, L⟩ := t
          simp only at c5 c6 hN hsz
          obtain ⟨wA, hwA⟩ : ∃ wA, wr.alloc (Obj.cells #[Value.int .i64 out, .slice na L.length nc] 54) = wA := ⟨_, rfl⟩
          have kA : Keep wr wA := by rw [← hwA]; exact (Keep.refl wr).alloc _
          have rA : wA.heap[wr.heap.size]? = some (Obj.cells #[Value.int .i64 out, .slice na L.length nc] 54 (0, 0)) := by rw [← hwA]; exact heap_alloc_new wr _
          have A0 := cell_of_row wA _ 0 _ 54 (0, 0) rA
          have A1 := cell_of_row wA _ 1 _ 54 (0, 0) rA
          simp at A0 A1
          rw [← hwA] at A0 A1
          replace rA : Hid _ := rA
          replace hwA : Hid _ := hwA
          have hT := take_any w wA w.heap.size X (gall (ts.take k)) (hG.keep kA) hC.out (Keep.trans kw kA) na nc out (k : Int) F L hsz hN (by have := hgl.out; have := hn6.out; omega) hX.out
          by_cases hE : tkE L F = 0
          · have c7 : (tkE L F != 0) = false := by rw [bne_eq_false_iff_eq]; exact hE
            replace hE : Hid _ := hE
            go_wp2_with (first | (go_at_call 33; rw [hwA.out]; refine hT.mono ?_; rintro e w5 ⟨rfl, k5, kt5, h5⟩))
            obtain ⟨X', g1, g2, g3⟩ := h5 hE.out
            have hb1 := hk1.out
            have hw : ((k : Int) + 1) = ((k + 1 : Nat) : Int) := rfl
            rw [hw]
            have hgl2 := gat_len (tkE_tr hE.out) (k : Int)
            have HS : Hid (gall (ts.take (k + 1)) = gall (ts.take k) ++ gat L (k : Int)) := by show _ = _; rw [HT.out, gall_snoc, HL.out]
            refine ⟨⟨k + 1, X', rfl, hb1, g1, ?_, ?_, ?_, k5, HJ.out hE.out, ?_⟩, ?_⟩
            · show ConD _ _
              rw [HS.out]; exact g2
            · show _ ≤ _
              rw [HS.out, List.length_append]; exact Nat.le_trans g3 (Nat.add_le_add_right (Nat.le_refl _) _)
            · show _ ≤ _
              rw [HS.out, List.length_append, Nat.succ_mul]
              exact Nat.add_le_add hgl.out hgl2
            · intro s hs
              rw [HS.out] at hs
              rcases List.mem_append.1 hs with hs | hs
              · exact hth.out s hs
              · exact gat_th hN (tkE_tr hE.out) _ s hs
            · exact left_down hb1
          · have c7 : (tkE L F != 0) = true := bne_iff_ne.2 hE
            have hR := HF.out hE
            replace hE : Hid _ := hE
            replace hR : Hid _ := hR
            go_wp2_with (first | (go_at_call 33; rw [hwA.out]; refine hT.mono ?_; rintro e w5 ⟨rfl, k5, kt5, h5⟩))
            try simp only [Exit.inBlock, Exit.then]
            refine bodyPost_ret (results_tmp2 rfl _ _ _) rfl ?_
            have hq : ofE ts F = tkE L F := hx.out.trans hR.out
            exact ⟨_, by rw [hq]; rfl, k5, fun _ => rfl, fun h => absurd (hq.symm.trans h) hE.out⟩
        · have hkc : ¬ (k : Int) < (n : Int) := by omega
          obtain rfl : k = n := by omega
          have hx0 : Hid (ofE ts F = 0) := by
            show _ = _
            rw [hx.out]
            exact firE_none ts fun j hj' => hj.out j (by omega)
          have htk : ts.take k = ts := by rw [← hn, List.take_length]
          rw [htk] at hC hX hgl hth
          have hXl : X.n ≤ 268435456 := by have := hX.out; have := hgl.out; have := hn6.out; omega
          have hLi := lists_any w wr w.heap.size X hG kw (fun i hi => Con_th hC.out.1 hth.out hi) (fun i hi => by have := hC.out.1.len hi (j := 0) (by omega); have := hgl.out; have := hn6.out; omega) (by omega)
          go_wp2_with (first | (go_at_call 34; refine hLi.mono ?_; rintro e w5 ⟨v, A, M, rfl, k5, h5⟩))
          try simp only [Exit.inBlock, Exit.then]
          refine bodyPost_ret (results_tmp2 rfl _ _ _) rfl ?_
          exact ⟨v, by rw [hx0.out]; rfl, k5, fun h => absurd hx0.out h, fun _ => ⟨X, A, M, hC.out.1, h5, hC.out.2.wth fun i hi r hr => eqv.mem (h5.2.2.2.2.1 i hi).2 hr⟩⟩
end Go.Proofs.Ytaogjiffnebnkaa.Ow
