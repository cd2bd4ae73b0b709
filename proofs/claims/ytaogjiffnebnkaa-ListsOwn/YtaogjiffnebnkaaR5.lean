import Derived.Test.YtaogjiffnebnkaaR3
import Derived.Test.YtaogjiffnebnkaaKM3
set_option linter.unusedVariables false
set_option linter.unusedSimpArgs false
namespace Go.Proofs.Ytaogjiffnebnkaa
open Go.RowKit Go.Shelf Go.Maps
/-- A node, as the text of masks says it. -/
def Nd.m (d : Nd) : Mk.Nd := ⟨d.kd, d.vl, d.ft, d.th, d.cs, d.ms, d.lf, d.rt⟩
theorem getD_m (L : List Nd) (j : Nat) : (L.map Nd.m).getD j Mk.nd0 = (L.getD j nd0).m := by
  by_cases h : j < L.length
  · simp [List.getD, h]
  · simp [List.getD, h]; rfl
theorem RdN.m {w : World} {a : Option Addr} {L : List Nd} (h : RdN w a L) : Mk.RdN w a (L.map Nd.m) := by
  intro j hj
  obtain ⟨b, o, ca, cap, e, hn⟩ := h j (by simpa using hj)
  refine ⟨b, o, ca, cap, e, ?_⟩
  rw [getD_m]
  exact ⟨hn.c0, hn.c1, hn.c2, hn.c3, hn.c4, hn.c5, hn.c6, hn.c7, hn.rd, hn.cp, hn.sz, ⟨hn.ok.kd, hn.ok.vl, hn.ok.ft, hn.ok.th, hn.ok.cs, hn.ok.ms, hn.ok.lf, hn.ok.rt⟩⟩
/-- What keeps a tree from being marked. -/
def trE (L : List Nd) : Int := Mk.lvE (L.map Nd.m)
open Classical in
/-- The marks of a tree. -/
noncomputable def mkl (L : List Nd) : List (Nat × Nat × Nat) := if h : ∃ b, Mk.Bt (Mk.shp (L.map Nd.m)) b 0 then h.choose.mks 0 else []
theorem mkl_of {L : List Nd} {b : Mk.BT} (hb : Mk.Bt (Mk.shp (L.map Nd.m)) b 0) : mkl L = b.mks 0 := by
  unfold mkl
  have h : ∃ b, Mk.Bt (Mk.shp (L.map Nd.m)) b 0 := ⟨b, hb⟩
  rw [dif_pos h, h.choose_spec.one hb]
theorem mks_len : ∀ (b : Mk.BT) (a : Nat), (b.mks a).length + 1 = b.nl
  | .leaf _, _ => rfl
  | .node i l r, a => by
    have h1 := mks_len l a
    have h2 := mks_len r (a + l.nl)
    simp only [Mk.BT.mks, Mk.BT.nl, List.length_cons, List.length_append]
    omega
theorem mks_mem {t : Mk.Sh} {n : Nat} (hI : Mk.In t n) {b : Mk.BT} {i : Nat} (h : Mk.Bt t b i) : i < n → ∀ a, ∀ m ∈ b.mks a, m.1 < n ∧ t.K m.1 = true ∧ m.2.1 ≤ a + b.nl ∧ m.2.2 ≤ a + b.nl := by
  induction h with
  | leaf h => intro _ a m hm; simp [Mk.BT.mks] at hm
  | node h hl hr ihl ihr =>
    rename_i i l r
    intro hi a m hm
    have hk := hI.2 i hi h
    simp only [Mk.BT.mks, List.mem_cons, List.mem_append] at hm
    simp only [Mk.BT.nl]
    rcases hm with rfl | hm | hm
    · exact ⟨hi, h, by show a ≤ _; omega, by show a + l.nl ≤ _; omega⟩
    · have := ihl hk.1 a m hm
      exact ⟨this.1, this.2.1, by omega, by omega⟩
    · have := ihr hk.2 _ m hm
      exact ⟨this.1, this.2.1, by omega, by omega⟩
/-- What is known of marks. -/
theorem mkl_ok {L : List Nd} (h : trE L = 0) : (mkl L).length ≤ 4096 ∧ ∀ m ∈ mkl L, m.1 < L.length ∧ m.2.1 ≤ 4096 ∧ m.2.2 ≤ 4096 ∧ 0 ≤ (L.getD m.1 nd0).ft ∧ (L.getD m.1 nd0).ft < 65536 := by
  obtain ⟨-, hR, -, b, hb, -, hn⟩ := Mk.lvE_ok h
  rw [mkl_of hb]
  refine ⟨by have := mks_len b 0; omega, ?_⟩
  intro m hm
  obtain ⟨h1, h2, h3, h4⟩ := mks_mem hR.wi hb hR.1 0 m hm
  have hr := hR.2 m.1 h1
  rw [getD_m] at hr
  simp only [Mk.shp, decide_eq_true_eq, getD_m] at h2
  generalize L.getD m.1 nd0 = d at *
  refine ⟨by simpa using h1, by omega, by omega, ?_⟩
  unfold Mk.rightB Mk.spl at hr
  have e1 : d.m.kd = d.kd := rfl
  have e2 : d.m.ft = d.ft := rfl
  rcases h2 with hk | hk
  · rw [if_neg (by omega), if_pos hk] at hr
    simp only [Bool.and_eq_true, decide_eq_true_eq] at hr
    omega
  · rw [if_neg (by omega), if_neg (by omega), if_pos hk] at hr
    simp only [Bool.and_eq_true, decide_eq_true_eq] at hr
    omega
/-- A mark's node and its cut. -/
def mct (L : List Nd) (nr : Int) (m : Nat × Nat × Nat) : Nd × Ct := (L.getD m.1 nd0, ⟨(L.getD m.1 nd0).th, (L.getD m.1 nd0).cs, nr, (m.2.1 : Nat), (m.2.2 : Nat)⟩)
noncomputable def gat (L : List Nd) (nr : Int) : List (Nd × Ct) := (mkl L).map (mct L nr)
open Classical in
noncomputable def tkE (L : List Nd) (F : Int) : Int := if trE L ≠ 0 then trE L else if ∃ m ∈ mkl L, F ≤ (L.getD m.1 nd0).ft then 72 else 0
theorem OwnM_kt {B : Nat} {w w' : World} {v : Value} {l : List (Nat × Nat × Nat)} (h : Mk.OwnM B w v l) (k : KT w w') : Mk.OwnM B w' v l := by
  refine ⟨h.1, ?_⟩
  rcases h.2 with h2 | ⟨g, cap, cur, hv, hg, hh, r⟩
  · exact .inl h2
  · exact .inr ⟨g, cap, cur, hv, hg, k.kp g cur 59 hh (by decide) (by decide), r⟩
end Go.Proofs.Ytaogjiffnebnkaa
set_option linter.unusedVariables false
set_option linter.unusedSimpArgs false
namespace Go.Proofs.Ytaogjiffnebnkaa
open Go.RowKit Go.Shelf Go.Maps
attribute [local go_sem] run_store_float
theorem wrap_up {k n : Nat} (h : n ≤ 4096) (h1 : k + 1 ≤ n) : wrap64 ((k : Int) + 1) = ((k + 1 : Nat) : Int) := by
  unfold wrap64; omega
theorem left_down {k n : Nat} (h1 : k + 1 ≤ n) : n - (((k + 1 : Nat) : Int)).toNat < n - ((k : Int)).toNat := by omega
set_option maxRecDepth 100000 in
set_option maxHeartbeats 4000000 in
theorem take_any (w0 w : World) (mb : Nat) (X : GX) (S : List (Nd × Ct)) (hG : GI w0.heap.size w mb X) (hC : Con X S) (k0 : Keep w0 w) (a : Option Addr) (cap : Nat) (out nr F : Int) (L : List Nd) (hLn : L.length ≤ 2199023255552) (hrd : RdN w0 a L) (hS : S.length ≤ 268435456) (hXS : X.n ≤ S.length) :
    Calls Try.prog 33 #[.map (some mb), .agg #[.int .i64 out, .slice a L.length cap], .int .i64 nr, .int .i64 F] w fun e w' => e = .returned (.int .i64 (tkE L F)) ∧ Keep w0 w' ∧ KT w w' ∧ (tkE L F = 0 → ∃ X', GI w0.heap.size w' mb X' ∧ Con X' (S ++ gat L nr) ∧ X'.n ≤ S.length + (gat L nr).length) := by
  have kb : Keep w (w.alloc (Obj.cells #[Value.int IntKind.i64 out, Value.slice a L.length cap] 54)) := (Keep.refl w).alloc _
  have tb : (w.alloc (Obj.cells #[Value.int IntKind.i64 out, Value.slice a L.length cap] 54)).heap[w.heap.size]? = some (Obj.cells #[Value.int IntKind.i64 out, Value.slice a L.length cap] 54 (0, 0)) := heap_alloc_new w _
  have hM := Mk.Marks_any a cap out (L.map Nd.m) (by simpa using hLn) _ ((hrd.keep k0).keep kb).m
  rw [List.length_map] at hM
  go_enter Try.func33, Try.ntmps33
  go_wp2_with fail
  generalize w.alloc (Obj.cells #[Value.int IntKind.i64 out, Value.slice a L.length cap] 54) = w1 at *
  refine hM.mono ?_
  rintro e w2 ⟨v, l, rfl, hO, hl0, hl1, k2⟩
  replace k2 : Keep w1 w2 := k2
  have k02 : Keep w0 w2 := Keep.trans (Keep.trans k0 kb) k2
  have hG2 := (hG.keep kb).keep k2
  have kt2 : KT w w2 := (KT.of_keep kb).trans (KT.of_keep k2)
  have t2 := (k2.block _ (Array.getElem?_eq_some_iff.1 tb).1).trans tb
  by_cases hE : trE L = 0
  · have c1 : (Mk.lvE (L.map Nd.m) != 0) = false := by rw [bne_eq_false_iff_eq]; exact hE
    obtain ⟨hml, hmm⟩ := mkl_ok hE
    obtain rfl : l = mkl L := by
      obtain ⟨-, -, -, b, hb, -, -⟩ := Mk.lvE_ok hE
      rw [mkl_of hb]; exact hl1 b hE hb
    obtain ⟨av, cv, rfl, hcv, -⟩ := hO.shape
    replace hml : Hid _ := hml
    replace hmm : Hid _ := hmm
    replace hE : Hid _ := hE
    replace t2 : Hid _ := t2
    clear hl0 hl1 hM
    obtain ⟨n, hn⟩ : ∃ n, (mkl L).length = n := ⟨_, rfl⟩
    rw [hn] at hO hcv ⊢
    go_wp2_with fail
    go_loopw [24] (fun iv wr => ∃ (k : Nat) (Xk : GX), iv = .int .i64 (k : Int) ∧ k ≤ n ∧ GI w0.heap.size wr mb Xk ∧ Hid (Con Xk (S ++ (gat L nr).take k)) ∧ Hid (Xk.n ≤ S.length + k) ∧ Keep w0 wr ∧ KT w2 wr ∧ Hid (∀ j, j < k → (L.getD ((mkl L).getD j Mk.m0).1 nd0).ft < F)) (fun iv _ => n - (intOf iv).toNat)
    case atStart => exact ⟨0, X, rfl, by omega, hG2, by show Con _ _; simpa using hC, hXS, k02, KT.refl _, fun j hj => by omega⟩
    case round =>
      obtain ⟨k, Xk, rfl, hk, hGk, hCk, hXk, kw, kt, hlt⟩ := hrel
      by_cases hkl : k < n
      · have hkc : (k : Int) < (n : Int) := by omega
        have hk1 : Hid (k + 1 ≤ n) := hkl
        obtain ⟨av', cv', e1, -, hR⟩ := (OwnM_kt hO kt).shape
        simp only [Value.slice.injEq] at e1
        obtain ⟨rfl, -, -⟩ := e1
        obtain ⟨bm, om, rfl, m0, m1, m2⟩ := hR k (by rw [hn]; exact hkl)
        have hmem : (mkl L).getD k Mk.m0 ∈ mkl L := by
          have : (mkl L).getD k Mk.m0 = (mkl L)[k]'(by rw [hn]; exact hkl) := by simp [List.getD, hn, hkl]
          rw [this]; exact List.getElem_mem _
        obtain ⟨f1, f2, f3, f4, f5⟩ := hmm.out _ hmem
        have HT : Hid ((gat L nr).take (k + 1) = (gat L nr).take k ++ [mct L nr ((mkl L).getD k Mk.m0)]) := by
          show _ = _
          unfold gat
          rw [List.take_add_one]
          simp [List.getD, hn, hkl]
        have HL : Hid (∀ j, j < k + 1 → (L.getD ((mkl L).getD k Mk.m0).1 nd0).ft < F → (L.getD ((mkl L).getD j Mk.m0).1 nd0).ft < F) := by
          intro j hj h
          by_cases q : j = k
          · rw [q]; exact h
          · exact hlt.out j (by omega)
        have HX : Hid (F ≤ (L.getD ((mkl L).getD k Mk.m0).1 nd0).ft → tkE L F = 72) := by
          intro h
          unfold tkE
          rw [if_neg (by simpa using hE.out), if_pos ⟨_, hmem, h⟩]
        unfold mct at HT
        generalize (mkl L).getD k Mk.m0 = m at *
        have hmi : ((m.1 : Nat) : Int) < (L.length : Int) := by omega
        obtain ⟨bn, on, ca, cp, rfl, hnd⟩ := hrd m.1 f1
        have hnw := hnd.keep kw
        generalize L.getD m.1 nd0 = d at *
        have c0 := hnw.c0
        have c1' := hnw.c1
        have c2 := hnw.c2
        have c3 := hnw.c3
        have c4 := hnw.c4
        have c5 := hnw.c5
        have c6 := hnw.c6
        have c7 := hnw.c7
        have tr := kt.kp _ _ _ t2.out (by decide) (by decide)
        have d0 := cell_of_row wr _ 0 _ 54 (0, 0) tr
        have d1 := cell_of_row wr _ 1 _ 54 (0, 0) tr
        simp at d0 d1
        obtain ⟨w4, hw4, k4, s4, r0, r1⟩ := boxes2n wr #[Value.int .i64 (m.1 : Nat), .int .i64 (m.2.1 : Nat), .int .i64 (m.2.2 : Nat)] #[Value.int .u8 d.kd, .int .i64 d.vl, .int .i64 d.ft, .float .f64 d.th, .slice ca d.cs.length cp, .int .u8 d.ms, .int .i64 d.lf, .int .i64 d.rt] 59 83
        have hA := add_any w0 w4 mb Xk (S ++ (gat L nr).take k) (hGk.keep k4) hCk.out (Keep.trans kw k4) d ca cp ⟨d.th, d.cs, nr, (m.2.1 : Nat), (m.2.2 : Nat)⟩ ca cp ⟨f4, f5⟩ hnd.rd hnd.sz hnd.cp (by have := hml.out; rw [List.length_append, List.length_take]; omega) (by have := hXk.out; have := hml.out; omega)
        unfold Ct.v Nd.v at hA
        obtain ⟨wA, hwA⟩ : ∃ wA, wr.alloc (Obj.cells #[Value.int .i64 (m.1 : Nat), .int .i64 (m.2.1 : Nat), .int .i64 (m.2.2 : Nat)] 59) = wA := ⟨_, rfl⟩
        have kA : Keep wr wA := by rw [← hwA]; exact (Keep.refl wr).alloc _
        have rA : wA.heap[wr.heap.size]? = some (Obj.cells #[Value.int .i64 (m.1 : Nat), .int .i64 (m.2.1 : Nat), .int .i64 (m.2.2 : Nat)] 59 (0, 0)) := by rw [← hwA]; exact heap_alloc_new wr _
        have A0 := kA.cell d1
        have A1 := cell_of_row wA _ 0 _ 59 (0, 0) rA
        have A2 := kA.cell c0
        have A3 := kA.cell c1'
        have A4 := kA.cell c2
        have A5 := kA.cell c3
        have A6 := kA.cell c4
        have A7 := kA.cell c5
        have A8 := kA.cell c6
        have A9 := kA.cell c7
        have B0 := cell_of_row w4 _ 0 _ 83 (0, 0) r1
        have B1 := cell_of_row w4 _ 1 _ 83 (0, 0) r1
        have B2 := cell_of_row w4 _ 2 _ 83 (0, 0) r1
        have B3 := cell_of_row w4 _ 3 _ 83 (0, 0) r1
        have B4 := cell_of_row w4 _ 4 _ 83 (0, 0) r1
        have B5 := cell_of_row w4 _ 5 _ 83 (0, 0) r1
        have B6 := cell_of_row w4 _ 6 _ 83 (0, 0) r1
        have B7 := cell_of_row w4 _ 7 _ 83 (0, 0) r1
        have B8 := cell_of_row w4 _ 1 _ 59 (0, 0) r0
        have B9 := cell_of_row w4 _ 2 _ 59 (0, 0) r0
        simp at A1 B0 B1 B2 B3 B4 B5 B6 B7 B8 B9
        rw [← hwA] at A0 A1 A2 A3 A4 A5 A6 A7 A8 A9
        rw [← hw4] at B0 B1 B2 B3 B4 B5 B6 B7 B8 B9
        replace hw4 : Hid _ := hw4
        replace r0 : Hid _ := r0
        replace r1 : Hid _ := r1
        replace rA : Hid _ := rA
        replace hwA : Hid _ := hwA
        replace s4 : Hid _ := s4
        replace tr : Hid _ := tr
        clear c0 c1' c2 c3 c4 c5 c6 c7 d0 d1 hR
        by_cases hF : F ≤ d.ft
        · have hFc : F ≤ d.ft := hF
          go_wp2_with fail
          rw [hw4.out]
          have hx := HX.out hF
          go_ret
          exact ⟨by rw [hx]; rfl, Keep.trans kw k4, kt2.trans (kt.trans (KT.of_keep k4)), fun h => by rw [hx] at h; cases h⟩
        · have hFc : ¬ F ≤ d.ft := hF
          have hlt2 : d.ft < F := by omega
          go_wp2_with (first | (go_at_call 52; rw [hw4.out]; refine hA.mono ?_; rintro e w5 ⟨⟨v5, rfl⟩, X', g1, g2, g3, g4, g5⟩))
          have hb : n ≤ 4096 := by rw [← hn]; exact hml.out
          have hb1 := hk1.out
          have hw : wrap64 ((k : Int) + 1) = ((k + 1 : Nat) : Int) := wrap_up hb hb1
          rw [hw]
          refine ⟨⟨k + 1, X', rfl, hk1.out, g1, ?_, ?_, g3, kt.trans ((KT.of_keep k4).trans g4), fun j hj => HL.out j hj hlt2⟩, ?_⟩
          · show Con _ _
            rw [HT.out, ← List.append_assoc]
            exact g2
          · exact Nat.le_trans g5 (Nat.succ_le_succ hXk.out)
          · show n - (((k + 1 : Nat) : Int)).toNat < n - ((k : Int)).toNat
            exact left_down hb1
      · have hkc : ¬ (k : Int) < (n : Int) := by omega
        obtain rfl : k = n := by omega
        have hx : Hid (tkE L F = 0) := by
          show _ = _
          unfold tkE
          rw [if_neg (by simpa using hE.out), if_neg ?_]
          rintro ⟨m, hm, h⟩
          obtain ⟨j, hj, rfl⟩ := List.getElem_of_mem hm
          have := hlt.out j (by omega)
          simp [List.getD, hj] at this
          simp [List.getD] at h
          omega
        have hg : Hid ((gat L nr).length = k) := by show _ = _; unfold gat; rw [List.length_map]; exact hn
        go_wp2_with fail
        go_ret
        refine ⟨by rw [hx.out]; rfl, kw, kt2.trans kt, fun _ => ⟨Xk, hGk, ?_, by rw [hg.out]; exact hXk.out⟩⟩
        have := hCk.out
        rw [← hg.out, List.take_length] at this
        exact this
  · have c1 : (Mk.lvE (L.map Nd.m) != 0) = true := bne_iff_ne.2 hE
    have hx : Hid (tkE L F = trE L) := by show _ = _; unfold tkE; rw [if_pos hE]
    replace hE : Hid _ := hE
    clear hM hl0 hl1
    go_wp2_with fail
    go_ret
    exact ⟨by rw [hx.out]; rfl, k02, kt2, fun h => absurd (hx.out.symm.trans h) hE.out⟩
end Go.Proofs.Ytaogjiffnebnkaa
