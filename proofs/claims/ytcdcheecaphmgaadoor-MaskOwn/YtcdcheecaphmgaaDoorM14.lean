import Derived.Test.YtcdcheecaphmgaaDoorM13
import Derived.Test.YtcdcheecaphmgaaDoorM12
set_option linter.unusedVariables false
set_option linter.unusedSimpArgs false
namespace Go.Proofs.YtcdcheecaphmgaaDoor
open Go.RowKit Go.Shelf
attribute [local go_sem] run_store_float
/-- Does a vector go to the right at a node? -/
def rgtB (L : List Nd) (xs : List Nat) (i : Nat) : Bool := decide (gsS (L.getD i nd0) (xs.getD (L.getD i nd0).ft.toNat 0) = 2)
/-- The marks of the false nodes. -/
def flm (L : List Nd) (xs : List Nat) (l : List (Nat × Nat × Nat)) : List (Nat × Nat × Nat) := l.filter fun x => rgtB L xs x.1
theorem take_nextM (l : List (Nat × Nat × Nat)) (i : Nat) (h : i < l.length) : l.take (i + 1) = l.take i ++ [l.getD i m0] := by
  rw [List.take_add_one]
  simp [List.getD, h]
set_option maxRecDepth 100000 in
set_option maxHeartbeats 1000000 in
theorem falseOf_any (a ax : Option Addr) (cap cx : Nat) (out : Int) (L : List Nd) (xs : List Nat) (hLn : L.length ≤ 2199023255552) (hxl : xs.length ≤ 17592186044416) (hR : Rgt L) {b : BT} (hT : Tr (shp L) L.length) (hb : Bt (shp L) b 0) (hn : b.nl ≤ 4096) (hlk : lackB L xs.length = false) (w : World) (hrd : RdN w a L) (hxd : RdF w ax xs) :
    Calls Tryd.prog 44 #[.agg #[.int .i64 out, .slice a L.length cap], .slice ax xs.length cx] w fun e w' => ∃ v, e = .returned v ∧ OwnM w.heap.size w' v (flm L xs (b.mks 0)) ∧ Keep w w' := by
  have k0 : Keep w (w.alloc (Obj.cells #[Value.int IntKind.i64 out, Value.slice a L.length cap] 24)) := (Keep.refl w).alloc _
  have tb : (w.alloc (Obj.cells #[Value.int IntKind.i64 out, Value.slice a L.length cap] 24)).heap[w.heap.size]? = some (Obj.cells #[Value.int IntKind.i64 out, Value.slice a L.length cap] 24 (0, 0)) := heap_alloc_new w _
  have hC := marksOf_any a cap out L hLn hR hb hn _ (hrd.keep k0)
  go_enter Tryd.func44, Tryd.ntmps44
  go_wp2_with fail
  generalize w.alloc (Obj.cells #[Value.int IntKind.i64 out, Value.slice a L.length cap] 24) = w1 at *
  refine hC.mono ?_
  rintro e w2 ⟨v, rfl, hO, k2⟩
  have k02 := k0.trans k2
  have t2 := (k2.block _ (Array.getElem?_eq_some_iff.1 tb).1).trans tb
  obtain ⟨a2, c2, rfl, -, hr2⟩ := hO.shape
  have hml := b.mks_len 0
  have hmb : (b.mks 0).length ≤ 4096 := by omega
  have hI0 : OwnM w2.heap.size w2 (.slice none 0 0) (flm L xs ((b.mks 0).take 0)) := OwnM.nil _ _
  replace hI0 : Hid _ := hI0
  replace t2 : Hid _ := t2
  clear hC hO tb
  go_wp2_with fail
  go_loopw [5, 12] (fun v iv wr => ∃ (j : Nat), j ≤ (b.mks 0).length ∧ iv = .int .i64 j ∧ OwnM w2.heap.size wr v (flm L xs ((b.mks 0).take j)) ∧ Keep w2 wr) (fun _ iv _ => (b.mks 0).length - (intOf iv).toNat)
  case atStart => exact ⟨0, by omega, rfl, hI0.out, Keep.refl _⟩
  case round =>
    clear hI0
    obtain ⟨j, hj, rfl, hI, kw⟩ := hrel
    by_cases hjl : j < (b.mks 0).length
    · have hjc : (j : Int) < ((b.mks 0).length : Int) := by omega
      obtain ⟨b1, o1, hae, d0, d1, d2⟩ := (hr2.keep kw) j hjl
      have hmem : (b.mks 0).getD j m0 ∈ b.mks 0 := by
        rw [List.getD_eq_getElem?_getD, List.getElem?_eq_getElem hjl]
        exact List.getElem_mem hjl
      obtain ⟨hfr, hKi, -⟩ := hb.fr_mks 0 _ hmem
      have htn := take_nextM (b.mks 0) j hjl
      obtain ⟨m, hm⟩ : ∃ m, (b.mks 0).getD j m0 = m := ⟨_, rfl⟩
      rw [hm] at d0 d1 d2 hfr hKi htn
      obtain ⟨i, mf, mt⟩ := m
      simp only at d0 d1 d2 hfr hKi
      subst hae
      have hi : i < L.length := ord_lt hT.wi i (by rw [ord_bt hT hb, ← b.fr_pre 0]; exact List.mem_map.2 ⟨_, hfr, rfl⟩)
      have hft0 := hR.ft hi hKi
      have hft1 := lackB_ft hlk hi hKi
      obtain ⟨bb, o, ca, cpn, rfl, hN⟩ := hrd.keep (k02.trans kw) i hi
      obtain ⟨N, hNd⟩ : ∃ N, L.getD i nd0 = N := ⟨_, rfl⟩
      rw [hNd] at hN hft0 hft1
      obtain ⟨ft, hft⟩ : ∃ ft : Nat, N.ft = ft := ⟨N.ft.toNat, by omega⟩
      obtain ⟨bx, ox, rfl, hxc⟩ := (hxd.keep (k02.trans kw)) ft (by omega)
      obtain ⟨x, hx⟩ : ∃ x, xs.getD ft 0 = x := ⟨_, rfl⟩
      rw [hx] at hxc
      have hxe : xs.getD N.ft.toNat 0 = x := by rw [hft, Int.toNat_natCast, hx]
      have hrg : rgtB L xs i = decide (gsS N x = 2) := by unfold rgtB; rw [hNd]; simp only [hxe]
      have c0 := hN.c0
      have c1 := hN.c1
      have c2' := hN.c2
      have c3 := hN.c3
      have c4 := hN.c4
      have c5 := hN.c5
      have c6 := hN.c6
      have c7 := hN.c7
      rw [hft] at c2'
      have kA : Keep wr (wr.alloc (Obj.cells #[.int .i64 (i : Nat), .int .i64 (mf : Nat), .int .i64 (mt : Nat)] 52)) := (Keep.refl wr).alloc _
      have kB : Keep wr ((wr.alloc (Obj.cells #[.int .i64 (i : Nat), .int .i64 (mf : Nat), .int .i64 (mt : Nat)] 52)).alloc (Obj.cells #[Value.int IntKind.u8 N.kd, Value.int IntKind.i64 N.vl, Value.int IntKind.i64 (ft : Nat), Value.float FloatKind.f64 N.th, Value.slice ca N.cs.length cpn, Value.int IntKind.u8 N.ms, Value.int IntKind.i64 N.lf, Value.int IntKind.i64 N.rt] 63)) := kA.alloc _
      have tm : (wr.alloc (Obj.cells #[.int .i64 (i : Nat), .int .i64 (mf : Nat), .int .i64 (mt : Nat)] 52)).heap[wr.heap.size]? = some (Obj.cells #[.int .i64 (i : Nat), .int .i64 (mf : Nat), .int .i64 (mt : Nat)] 52 (0, 0)) := heap_alloc_new wr _
      have tn : ((wr.alloc (Obj.cells #[.int .i64 (i : Nat), .int .i64 (mf : Nat), .int .i64 (mt : Nat)] 52)).alloc (Obj.cells #[Value.int IntKind.u8 N.kd, Value.int IntKind.i64 N.vl, Value.int IntKind.i64 (ft : Nat), Value.float FloatKind.f64 N.th, Value.slice ca N.cs.length cpn, Value.int IntKind.u8 N.ms, Value.int IntKind.i64 N.lf, Value.int IntKind.i64 N.rt] 63)).heap[wr.heap.size + 1]? = some (Obj.cells #[Value.int IntKind.u8 N.kd, Value.int IntKind.i64 N.vl, Value.int IntKind.i64 (ft : Nat), Value.float FloatKind.f64 N.th, Value.slice ca N.cs.length cpn, Value.int IntKind.u8 N.ms, Value.int IntKind.i64 N.lf, Value.int IntKind.i64 N.rt] 63 (0, 0)) := by
        have := heap_alloc_new (wr.alloc (Obj.cells #[.int .i64 (i : Nat), .int .i64 (mf : Nat), .int .i64 (mt : Nat)] 52)) (Obj.cells #[Value.int IntKind.u8 N.kd, Value.int IntKind.i64 N.vl, Value.int IntKind.i64 (ft : Nat), Value.float FloatKind.f64 N.th, Value.slice ca N.cs.length cpn, Value.int IntKind.u8 N.ms, Value.int IntKind.i64 N.lf, Value.int IntKind.i64 N.rt] 63)
        rw [World.size_alloc] at this
        exact this
      have tm2 := (((Keep.refl (wr.alloc (Obj.cells #[.int .i64 (i : Nat), .int .i64 (mf : Nat), .int .i64 (mt : Nat)] 52))).alloc (Obj.cells #[Value.int IntKind.u8 N.kd, Value.int IntKind.i64 N.vl, Value.int IntKind.i64 (ft : Nat), Value.float FloatKind.f64 N.th, Value.slice ca N.cs.length cpn, Value.int IntKind.u8 N.ms, Value.int IntKind.i64 N.lf, Value.int IntKind.i64 N.rt] 63)).block _ (Array.getElem?_eq_some_iff.1 tm).1).trans tm
      have g0 := kA.cell c0
      have g1 := kA.cell c1
      have g2 := kA.cell c2'
      have g3 := kA.cell c3
      have g4 := kA.cell c4
      have g5 := kA.cell c5
      have g6 := kA.cell c6
      have g7 := kA.cell c7
      have x1 := cell_of_row _ _ 1 _ 24 (0, 0) ((kw.block _ (Array.getElem?_eq_some_iff.1 t2.out).1).trans t2.out)
      have y0 := cell_of_row _ _ 0 _ 52 (0, 0) tm
      have z0 := cell_of_row _ _ 0 _ 63 (0, 0) tn
      have z1 := cell_of_row _ _ 1 _ 63 (0, 0) tn
      have z2 := cell_of_row _ _ 2 _ 63 (0, 0) tn
      have z3 := cell_of_row _ _ 3 _ 63 (0, 0) tn
      have z4 := cell_of_row _ _ 4 _ 63 (0, 0) tn
      have z5 := cell_of_row _ _ 5 _ 63 (0, 0) tn
      have z6 := cell_of_row _ _ 6 _ 63 (0, 0) tn
      have z7 := cell_of_row _ _ 7 _ 63 (0, 0) tn
      simp only [List.getElem?_toArray, List.getElem?_cons_zero, List.getElem?_cons_succ] at x1 y0 z0 z1 z2 z3 z4 z5 z6 z7
      have x1a := kA.cell x1
      have hxb := kB.cell hxc
      have hG := Goes_any N ca cpn x ((wr.alloc (Obj.cells #[.int .i64 (i : Nat), .int .i64 (mf : Nat), .int .i64 (mt : Nat)] 52)).alloc (Obj.cells #[Value.int IntKind.u8 N.kd, Value.int IntKind.i64 N.vl, Value.int IntKind.i64 (ft : Nat), Value.float FloatKind.f64 N.th, Value.slice ca N.cs.length cpn, Value.int IntKind.u8 N.ms, Value.int IntKind.i64 N.lf, Value.int IntKind.i64 N.rt] 63)).drew ((hN.rd.keep kB).keep (Keep.refl _).drew) hN.sz hN.cp
      unfold Nd.v at hG
      rw [hft] at hG
      have hiL : (i : Int) < (L.length : Int) := by omega
      have hib : i ≤ 2199023255552 := by omega
      have hfx : (ft : Int) < (xs.length : Int) := by omega
      have hfb : ft ≤ 17592186044416 := by omega
      have hjb : j ≤ 4096 := by omega
      obtain ⟨va, vc, hve, hvc, -⟩ := hI.shape
      subst hve
      replace hNd : Hid _ := hNd
      replace hft : Hid _ := hft
      replace hxe : Hid _ := hxe
      replace hx : Hid _ := hx
      replace hm : Hid _ := hm
      replace htn : Hid _ := htn
      replace hI : Hid _ := hI
      have hw2le := kw.le
      replace kw : Hid _ := kw
      replace kB : Hid _ := kB
      replace tm2 : Hid _ := tm2
      replace hrg : Hid _ := hrg
      replace hfr : Hid _ := hfr
      clear hN hmem tm tn kA
      go_wp2_with fail
      go_region_with (go_at_call 70; refine hG.mono ?_; rintro e w6 ⟨rfl, k6⟩)
      all_goals
        have k6w : Keep wr w6 := Keep.trans (Keep.drew kB.out) k6
        have t6 := (k6.block _ (Array.getElem?_eq_some_iff.1 tm2.out).1).trans tm2.out
        have u0 := cell_of_row _ _ 0 _ 52 (0, 0) t6
        have u1' := cell_of_row _ _ 1 _ 52 (0, 0) t6
        have u2' := cell_of_row _ _ 2 _ 52 (0, 0) t6
        simp only [List.getElem?_toArray, List.getElem?_cons_zero, List.getElem?_cons_succ] at u0 u1' u2'
        clear hG c0 c1 c2' c3 c4 c5 c6 c7 g0 g1 g2 g3 g4 g5 g6 g7 x1 x1a y0 z0 z1 z2 z3 z4 z5 z6 z7 hxb d0 d1 d2
        by_cases h2 : gsS N x = 2
        · have cR : (((gsS N x : Nat) : Int) == 2) = true := by rw [h2]; rfl
          have hlf : flm L xs ((b.mks 0).take (j + 1)) = flm L xs ((b.mks 0).take j) ++ [(i, mf, mt)] := by
            rw [htn.out]
            unfold flm
            rw [List.filter_append]
            simp [hrg.out, h2]
          have hO6 : OwnM _ _ _ _ := own_keep hI.out (k6w.alloc (Obj.cells #[.int .i64 (i : Nat), .int .i64 (mf : Nat), .int .i64 (mt : Nat)] 52))
          have hB6 : w2.heap.size ≤ (w6.alloc (Obj.cells #[.int .i64 (i : Nat), .int .i64 (mf : Nat), .int .i64 (mt : Nat)] 52)).heap.size := Nat.le_trans hw2le (Keep.le (Keep.alloc k6w _))
          have hL6 : (flm L xs ((b.mks 0).take j)).length + 1 ≤ 5864062014805 := by
            have h3 : (flm L xs ((b.mks 0).take j)).length ≤ ((b.mks 0).take j).length := List.length_filter_le _ _
            rw [List.length_take] at h3
            omega
          replace h2 : Hid _ := h2
          replace hlf : Hid _ := hlf
          replace hO6 : Hid _ := hO6
          replace hB6 : Hid _ := hB6
          replace hL6 : Hid _ := hL6
          replace t6 : Hid _ := t6
          go_simp
          go_wp2_with (at_builtin; refine wpList_appM w2.heap.size _ rfl _ _ rfl (flm L xs ((b.mks 0).take j)) (i, mf, mt) (.slice va (flm L xs ((b.mks 0).take j)).length vc) ?_ ?_ ?_ ⟨w6.heap.size, 0, none⟩ 1 ?_ ?_ ?_ ?_; rfl; exact hO6.out; exact hB6.out; rfl; exact newsM w6 i mf mt; exact hL6.out; intro v7 w7 hO7 g7; have k7 : Keep w2 w7 := Below.grown (Keep.alloc (Keep.trans kw.out k6w) _) g7 hB6.out (fun b hb => (own_block hI.out hb).1); rw [← hlf.out] at hO7; obtain ⟨a7, c7, rfl, -, -⟩ := hO7.shape; replace hO7 : Hid _ := hO7; replace k7 : Hid _ := k7)
          go_wp2_with fail
          exact ⟨⟨j + 1, by omega, by go_num, hO7.out, k7.out⟩, by simp [intOf]; omega⟩
        · have cR : (((gsS N x : Nat) : Int) == 2) = false := by rw [beq_eq_false_iff_ne]; omega
          have hlf : flm L xs ((b.mks 0).take (j + 1)) = flm L xs ((b.mks 0).take j) := by
            rw [htn.out]
            unfold flm
            rw [List.filter_append]
            simp [hrg.out, h2]
          have hO6 : OwnM _ _ _ _ := own_keep hI.out k6w
          rw [← hlf] at hO6
          replace h2 : Hid _ := h2
          replace hO6 : Hid _ := hO6
          replace t6 : Hid _ := t6
          rw [← hlf]
          replace hlf : Hid _ := hlf
          go_simp
          go_wp2_with fail
          exact ⟨⟨j + 1, by omega, by go_num, hO6.out, Keep.trans kw.out k6w⟩, by simp [intOf]; omega⟩
    · have hjc : ¬ (j : Int) < ((b.mks 0).length : Int) := by omega
      obtain rfl : j = (b.mks 0).length := by omega
      rw [List.take_length] at hI
      obtain ⟨va, vc, rfl, -, -⟩ := hI.shape
      replace hI : Hid _ := hI
      replace kw : Hid _ := kw
      go_wp2_with fail
      go_ret
      exact ⟨_, rfl, own_mono hI.out k02.le, k02.trans kw.out⟩
end Go.Proofs.YtcdcheecaphmgaaDoor
