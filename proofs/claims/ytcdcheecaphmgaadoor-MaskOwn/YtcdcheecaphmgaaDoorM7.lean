import Derived.Test.YtcdcheecaphmgaaDoorM6
set_option linter.unusedVariables false
set_option linter.unusedSimpArgs false
namespace Go.Proofs.YtcdcheecaphmgaaDoor
open Go.RowKit Go.Shelf
attribute [local go_sem] run_store_float
theorem take_nextN (l : List Nat) (i : Nat) (h : i < l.length) : l.take i ++ [l.getD i 0] = l.take (i + 1) := by
  rw [List.take_add_one]
  simp [List.getD, h]
theorem split_at (l : List Nat) (i : Nat) (h : i < l.length) : l = l.take i ++ l.getD i 0 :: l.drop (i + 1) := by
  have e := (List.take_append_drop i l).symm
  have e2 : l.drop i = l.getD i 0 :: l.drop (i + 1) := by
    rw [List.drop_eq_getElem_cons h]
    simp [List.getD, h]
  rw [e2] at e
  exact e
theorem Bt.top {t : Sh} {b : BT} {i : Nat} (h : Bt t b i) (a : Nat) : (i, a) ∈ b.fr a := by
  cases h with
  | leaf h => simp [BT.fr]
  | node h hl hr => simp [BT.fr]
theorem fr_at (b : BT) (i : Nat) (h : i < b.pre.length) : ∃ a, (b.pre.getD i 0, a) ∈ b.fr 0 := by
  have hl : (b.fr 0).length = b.pre.length := by rw [← b.fr_pre 0, List.length_map]
  refine ⟨((b.fr 0)[i]'(by omega)).2, ?_⟩
  have e : b.pre.getD i 0 = ((b.fr 0)[i]'(by omega)).1 := by
    have : b.pre[i]'h = ((b.fr 0)[i]'(by omega)).1 := by
      have h2 := b.fr_pre 0
      have h3 : b.pre[i]? = ((b.fr 0).map (·.1))[i]? := by rw [h2]
      rw [List.getElem?_eq_getElem h, List.getElem?_map, List.getElem?_eq_getElem (by omega)] at h3
      simpa using h3
    simp [List.getD, h, this]
  rw [e]
  exact List.getElem_mem _
theorem BT.fr_in (b : BT) : ∀ a, ∀ x ∈ b.fr a, x.2 < a + b.nl := by
  induction b with
  | leaf i => intro a x hx; simp only [BT.fr, List.mem_singleton] at hx; subst hx; simp [BT.nl]
  | node i l r hl hr =>
    intro a x hx
    have p1 := l.nl_pos
    simp only [BT.fr, List.mem_cons, List.mem_append] at hx
    simp only [BT.nl]
    rcases hx with rfl | hx | hx
    · simp only; omega
    · have := hl a x hx; omega
    · have := hr _ x hx; omega
theorem UI_cell {w : World} {g j x : Nat} {F : List Nat} (h : w.heap[g]? = some (.cells (UI F).toArray 3 (0, 0))) (hj : j < F.length) (hx : F.getD j 0 = x) : w.cell? ⟨g, j, none⟩ = some (.int .i64 (x : Nat)) := by
  rw [cell_of_row _ _ _ _ 3 (0, 0) h, List.getElem?_toArray, UI_get F j hj, hx]
theorem RM.drew {L : List Nd} {w W0 : World} {g : Nat} {b : BT} {p : List Nat} {l : List (Nat × Nat × Nat)} {F : List Nat} {v : Value} {wr : World} (h : RM L w W0 g b p l F v wr) : RM L w W0 g b p l F v wr.drew :=
  ⟨h.kp.drew, h.sz, h.low, h.row, h.own, h.fl, h.nm, h.mks, h.fr⟩
theorem RM.start {L : List Nd} {w w2 w4 : World} {b : BT} (hT : Tr (shp L) L.length) (hb : Bt (shp L) b 0) (k : Keep w w4) (t : w4.heap[w2.heap.size]? = some (.cells (UI (List.replicate L.length 0)).toArray 3 (0, 0))) : RM L w w4 w2.heap.size b [] [] (List.replicate L.length 0) (.slice none 0 0) w4 := by
  refine ⟨k, Nat.le_refl _, fun _ _ _ => rfl, t, OwnM.nil _ _, by simp, rfl, fun x hx => by simp at hx, ?_⟩
  intro j c hj hp
  rcases hp with rfl | ⟨q, hq, -⟩
  · have hnd : ((b.fr 0).map (·.1)).Nodup := by rw [b.fr_pre, ← ord_bt hT hb]; exact ord_nodup hT.wi
    have := assoc_one hnd (hb.top 0) hj
    subst this
    rw [List.getD_eq_getElem?_getD, List.getElem?_replicate]
    split <;> rfl
  · simp at hq
set_option maxRecDepth 100000 in
set_option maxHeartbeats 2000000 in
theorem rMarks_any (a : Option Addr) (cap : Nat) (out : Int) (L : List Nd) (hLn : L.length ≤ 2199023255552) (w : World) (hrd : RdN w a L) :
    Calls Tryd.prog 11 #[.agg #[.int .i64 out, .slice a L.length cap]] w fun e w' => ∃ v l, e = .returned (.tuple #[v, .int .i64 (lvE L)]) ∧ OwnM w.heap.size w' v l ∧ (lvE L ≠ 0 → l = []) ∧ (∀ b, lvE L = 0 → Bt (shp L) b 0 → l = b.mks 0) ∧ Keep w w' := by
  have k0 : Keep w (w.alloc (Obj.cells #[Value.int IntKind.i64 out, Value.slice a L.length cap] 24)) := (Keep.refl w).alloc _
  have tb : (w.alloc (Obj.cells #[Value.int IntKind.i64 out, Value.slice a L.length cap] 24)).heap[w.heap.size]? = some (Obj.cells #[Value.int IntKind.i64 out, Value.slice a L.length cap] 24 (0, 0)) := heap_alloc_new w _
  have hC := rCount_any a cap out L hLn _ (hrd.keep k0)
  go_enter Tryd.func11, Tryd.ntmps11
  go_wp2_with fail
  generalize w.alloc (Obj.cells #[Value.int IntKind.i64 out, Value.slice a L.length cap] 24) = w1 at *
  refine hC.mono ?_
  rintro e w2 ⟨rfl, k2⟩
  have k02 := k0.trans k2
  by_cases hE : lvE L = 0
  · have c1 : (lvE L != 0) = false := by rw [bne_eq_false_iff_eq]; exact hE
    obtain ⟨hS, hR, hT, b, hb, hlv, hn⟩ := lvE_ok hE
    have hOrd := ord_bt hT hb
    have t2 := (k2.block _ (Array.getElem?_eq_some_iff.1 tb).1).trans tb
    have hz2 := (Array.getElem?_eq_some_iff.1 t2).1
    have x0 := cell_of_row _ _ 0 _ 24 (0, 0) t2
    have x1 := cell_of_row _ _ 1 _ 24 (0, 0) t2
    simp only [List.getElem?_toArray, List.getElem?_cons_zero, List.getElem?_cons_succ] at x0 x1
    obtain ⟨i0, hi, hz0, hz1, hzb⟩ := info_parts i3
    have r1 := fun (wx : World) => run_make (P := Tryd.prog) wx 47 3 i0 _ Tryd.underlying47 hi hz0 .i64 .i64 (L.length : Nat) (L.length : Nat) (by omega) (by omega) (by rw [hzb]; omega) (by omega)
    simp only [hz1, Int.toNat_natCast, Nat.mul_one, made3] at r1
    have k3 : Keep w2 (w2.alloc (Obj.cells (UI (List.replicate L.length 0)).toArray 3)) := (Keep.refl w2).alloc _
    have t3 : (w2.alloc (Obj.cells (UI (List.replicate L.length 0)).toArray 3)).heap[w2.heap.size]? = some (Obj.cells (UI (List.replicate L.length 0)).toArray 3 (0, 0)) := heap_alloc_new w2 _
    have hC2 := (callsIn_wide (n := 3)).1 (rOrder_in 3 (by omega) (w2.alloc (Obj.cells (UI (List.replicate L.length 0)).toArray 3)) a cap out L hLn hS (hrd.keep (k02.trans k3)))
    have x0' := k3.cell x0
    have x1' := k3.cell x1
    replace hE : Hid _ := hE
    replace hS : Hid _ := hS
    replace hOrd : Hid _ := hOrd
    replace t2 : Hid _ := t2
    replace t3 : Hid _ := t3
    replace hlv : Hid _ := hlv
    clear hC hzb hz1 hz0 hi
    go_wp2_with fail
    refine hC2.mono ?_
    rintro e w4 ⟨v4, rfl, hO4, hB4, k4⟩
    rw [hOrd.out] at hO4
    have hpl : 0 < b.pre.length := by cases b <;> simp [BT.pre]
    have hple : b.pre.length ≤ L.length := by rw [← hOrd.out]; exact ord_len hT.wi
    obtain ⟨go, co, rfl, hco, hgo, hoc⟩ := hO4.cells hpl
    have hgw : w2.heap.size < go := by have := hB4 go rfl; rw [World.size_alloc] at this; omega
    have k04 := (k02.trans k3).trans k4
    have t4 := (k4.block _ (by rw [World.size_alloc]; omega)).trans t3.out
    have hg4 : w2.heap.size < w4.heap.size := (Array.getElem?_eq_some_iff.1 t4).1
    have I0 := RM.start (w2 := w2) hT hb k04 t4
    have tb4 := (k4.block _ (by rw [World.size_alloc]; omega)).trans ((k3.block _ hz2).trans t2.out)
    replace I0 : Hid _ := I0
    replace hoc : Hid _ := hoc
    replace tb4 : Hid _ := tb4
    clear hC2 hO4 hB4 t4 x0 x1 x0' x1' r1 t3 t2
    have hplb : b.pre.length ≤ 2199023255552 := by omega
    have hw2 := k02.le
    go_wp2_with fail
    go_loopw [7, 27] (fun v iv wr => ∃ (j : Nat) (l : List (Nat × Nat × Nat)) (F : List Nat), j ≤ b.pre.length ∧ iv = .int .i64 j ∧ RM L w w4 w2.heap.size b (b.pre.take j) l F v wr) (fun _ iv _ => b.pre.length - (intOf iv).toNat)
    case atStart => exact ⟨0, [], _, by omega, rfl, I0.out⟩
    case round =>
      clear I0
      obtain ⟨j, l, F, hj, rfl, hI⟩ := hrel
      by_cases hjl : j < b.pre.length
      · have hjc : (j : Int) < (b.pre.length : Int) := by omega
        obtain ⟨fa, hfa⟩ := fr_at b j hjl
        obtain ⟨i, hiv⟩ : ∃ i, b.pre.getD j 0 = i := ⟨_, rfl⟩
        have hci : wr.cell? ⟨go, j, none⟩ = some (.int .i64 (i : Nat)) := by
          have := hoc.out j hjl
          rw [hiv] at this
          rw [← this]
          exact World.cell?_of_block (hI.low go hgo (by omega))
        have hsp := split_at b.pre j hjl
        have htn := take_nextN b.pre j hjl
        rw [hiv] at hfa hsp htn
        have hi : i < L.length := ord_lt hT.wi i (by rw [hOrd.out, hsp]; simp)
        have hpar := ord_par hT (b.pre.take j) i (b.pre.drop (j + 1)) (by rw [hOrd.out]; exact hsp)
        have hFi := hI.fr i fa hfa hpar
        obtain ⟨bb, o, ca, cpn, rfl, hN⟩ := hrd.keep hI.kp i hi
        obtain ⟨N, hNd⟩ : ∃ N, L.getD i nd0 = N := ⟨_, rfl⟩
        have HK : Hid ((shp L).K i = decide (N.kd = 2 ∨ N.kd = 3)) := by show _ = _; rw [← hNd]; rfl
        have kk := fun hK => hR.kids hi hK
        have hlf := fun hK => hR.leaf hi hK
        rw [hNd] at hN kk hlf
        have c0 := hN.c0
        have c1' := hN.c1
        have c2 := hN.c2
        have c3 := hN.c3
        have c4 := hN.c4
        have c5 := hN.c5
        have c6 := hN.c6
        have c7 := hN.c7
        have tbr := (hI.low _ (by omega) (by omega)).trans tb4.out
        have x0 := cell_of_row _ _ 0 _ 24 (0, 0) tbr
        have x1 := cell_of_row _ _ 1 _ 24 (0, 0) tbr
        simp only [List.getElem?_toArray, List.getElem?_cons_zero, List.getElem?_cons_succ] at x0 x1
        have hiL : (i : Int) < (L.length : Int) := by omega
        have hib : i ≤ 2199023255552 := by omega
        have hjb : j ≤ 2199023255552 := by omega
        replace hI : Hid _ := hI
        replace hfa : Hid _ := hfa
        replace hsp : Hid _ := hsp
        replace htn : Hid _ := htn
        replace hiv : Hid _ := hiv
        replace hFi : Hid _ := hFi
        replace hNd : Hid _ := hNd
        replace hpar : Hid _ := hpar
        clear hN
        cases hKi : (shp L).K i
        · have hkd := hlf hKi
          rw [hkd] at c0
          have hW := hI.out.skip hg4 ((Keep.refl wr).alloc (Obj.cells #[Value.int IntKind.u8 N.kd, Value.int IntKind.i64 N.vl, Value.int IntKind.i64 N.ft, Value.float FloatKind.f64 N.th, Value.slice ca N.cs.length cpn, Value.int IntKind.u8 N.ms, Value.int IntKind.i64 N.lf, Value.int IntKind.i64 N.rt] 63)) hKi
          rw [htn.out, hkd] at hW
          replace hW : Hid _ := hW
          replace hkd : Hid _ := hkd
          clear hlf kk HK
          go_wp2_with fail
          exact ⟨⟨j + 1, l, F, by omega, by go_num, hW.out⟩, by simp [intOf]; omega⟩
        · obtain ⟨⟨f6, hA, -⟩, f7, hB, -⟩ := kk hKi
          have cE : ((N.kd : Int) == 1) = false := by
            have h1 := HK.out
            rw [hKi] at h1
            simp only [eq_comm (a := true), decide_eq_true_eq] at h1
            rw [beq_eq_false_iff_ne]; omega
          obtain ⟨c, hc, -, hnB⟩ := hb.fr_next 0 (i, fa) hfa.out hKi
          have hbd := b.fr_in 0 _ hnB
          simp only [Nat.zero_add] at hbd
          obtain ⟨T, hTe⟩ : ∃ T, fa + c.nl = T := ⟨_, rfl⟩
          have hTb : T ≤ 4096 := by omega
          have hTT : (fa : Int) + (c.nl : Int) = (T : Int) := by omega
          have hwT : IntKind.i64.wrap (T : Int) = T := by rw [IntKind.wrap_i64]; omega
          rw [f6] at c6
          rw [f7] at c7
          have kW : Keep wr (wr.alloc (Obj.cells #[Value.int IntKind.u8 N.kd, Value.int IntKind.i64 N.vl, Value.int IntKind.i64 N.ft, Value.float FloatKind.f64 N.th, Value.slice ca N.cs.length cpn, Value.int IntKind.u8 N.ms, Value.int IntKind.i64 ((shp L).A i : Nat), Value.int IntKind.i64 ((shp L).B i : Nat)] 63)) := (Keep.refl wr).alloc _
          have tx : (wr.alloc (Obj.cells #[Value.int IntKind.u8 N.kd, Value.int IntKind.i64 N.vl, Value.int IntKind.i64 N.ft, Value.float FloatKind.f64 N.th, Value.slice ca N.cs.length cpn, Value.int IntKind.u8 N.ms, Value.int IntKind.i64 ((shp L).A i : Nat), Value.int IntKind.i64 ((shp L).B i : Nat)] 63)).heap[wr.heap.size]? = some (Obj.cells #[Value.int IntKind.u8 N.kd, Value.int IntKind.i64 N.vl, Value.int IntKind.i64 N.ft, Value.float FloatKind.f64 N.th, Value.slice ca N.cs.length cpn, Value.int IntKind.u8 N.ms, Value.int IntKind.i64 ((shp L).A i : Nat), Value.int IntKind.i64 ((shp L).B i : Nat)] 63 (0, 0)) := heap_alloc_new wr _
          have hCb := rbelow_any (some ⟨bb, o, none⟩) cap out L hLn hR hc hA (by omega) _ (hrd.keep (hI.out.kp.trans kW))
          have x0a := kW.cell x0
          have x1a := kW.cell x1
          replace tx : Hid _ := tx
          replace f6 : Hid _ := f6
          replace f7 : Hid _ := f7
          replace hTe : Hid _ := hTe
          replace hbd : Hid _ := hbd
          clear hlf kk HK hnB
          go_wp2_with fail
          refine hCb.mono ?_
          rintro e w6 ⟨rfl, k6⟩
          have kw6 := kW.trans k6
          have hg6 : w2.heap.size < wr.heap.size := by have := hI.out.sz; omega
          have hFl := hI.out.fl
          have hcf : w6.cell? ⟨w2.heap.size, i, none⟩ = some (.int .i64 (fa : Nat)) := kw6.cell (UI_cell hI.out.row (by rw [hFl]; exact hi) hFi.out)
          have kA := fun ob => (Keep.refl w6).alloc ob
          have hcfa := fun ob => (kA ob).cell hcf
          have hOw := hI.out.own
          obtain ⟨va, vc, hve, hvc, -⟩ := hOw.shape
          subst hve
          have hln : l.length ≤ 4096 := by
            have h1 : (l.map (·.1)).length = ((b.pre.take j).filter (fun j => (shp L).K j)).length := by rw [hI.out.nm]
            rw [List.length_map] at h1
            have h2 : ((b.pre.take j).filter (fun j => (shp L).K j)).length ≤ (b.pre.filter (fun j => (shp L).K j)).length := by
              conv => rhs; rw [← List.take_append_drop j b.pre]
              rw [List.filter_append, List.length_append]; omega
            rw [hb.pre_inn, ← b.mks_inn 0, List.length_map] at h2
            have h3 := b.mks_len 0
            omega
          have kd : Keep wr (w6.alloc (Obj.cells #[.int .i64 (i : Nat), .int .i64 (fa : Nat), .int .i64 (T : Nat)] 52)).drew := (kw6.alloc _).drew
          have hO6 : OwnM _ _ _ _ := own_keep hOw kd
          have hnw : ∀ j u, (UM [(i, fa, T)])[j]? = some u → (w6.alloc (Obj.cells #[.int .i64 (i : Nat), .int .i64 (fa : Nat), .int .i64 (T : Nat)] 52)).drew.cell? ((⟨w6.heap.size, 0, none⟩ : Addr).add j) = some u := newsM w6 i fa T
          have hs6 : w4.heap.size ≤ (w6.alloc (Obj.cells #[.int .i64 (i : Nat), .int .i64 (fa : Nat), .int .i64 (T : Nat)] 52)).drew.heap.size := Nat.le_trans hI.out.sz kd.le
          have hln1 : l.length + 1 ≤ 5864062014805 := by omega
          replace hO6 : Hid _ := hO6
          replace hnw : Hid _ := hnw
          replace hs6 : Hid _ := hs6
          replace hOw : Hid _ := hOw
          replace kA : Hid _ := kA
          clear hCb x0a x1a c0 c1' c2 c3 c4 c5 c6 c7 x0 x1 hci
          go_wp2_with fail
          go_region_law (refine step_appM (B := w4.heap.size) rfl _ _ rfl l (i, fa, T) (.slice va l.length vc) hO6.out hs6.out hln1 ⟨w6.heap.size, 0, none⟩ 1 hnw.out rfl rfl ?_; intro v7 w7 hO7 g7)
          all_goals
            have hTT2 := hTe.out
            have hNx := hI.out.next hT hb hg4 hw2 kd hi hKi hfa.out hc (by rw [hTT2]; exact hO7) g7
            rw [hTT2] at hNx
            obtain ⟨n1, n2, hNx⟩ := hNx
            have tx7 : w7.heap[wr.heap.size]? = _ := (g7.block _ (Nat.lt_of_lt_of_le (Array.getElem?_eq_some_iff.1 tx.out).1 (Nat.le_trans k6.le ((kA.out _).drew).le)) (fun e => by obtain ⟨_, cur, hcu⟩ := own_block hOw.out e.symm; exact absurd (Array.getElem?_eq_some_iff.1 hcu).1 (by omega))).trans (((k6.alloc _).drew.block _ (Array.getElem?_eq_some_iff.1 tx.out).1).trans tx.out)
            have y6 := cell_of_row _ _ 6 _ 63 (0, 0) tx7
            have y7 := cell_of_row _ _ 7 _ 63 (0, 0) tx7
            simp only [List.getElem?_toArray, List.getElem?_cons_zero, List.getElem?_cons_succ] at y6 y7
            have m1 := UI_cell n1 (by rw [hFl]; exact hi) hFi.out
            have m2 := UI_cell n1 (j := (shp L).A i) (by rw [hFl]; exact hA) rfl
            have q2 := frozen_of_row _ _ ((shp L).A i) _ 3 n1
            have m3 : (w7.setCell ⟨w2.heap.size, (shp L).A i, none⟩ (.int .i64 (fa : Nat))).cell? ⟨w2.heap.size, i, none⟩ = some (.int .i64 (fa : Nat)) := UI_cell n2 (by rw [List.length_set, hFl]; exact hi) (by rw [getD_set]; split; rfl; exact hFi.out)
            have m4 := UI_cell n2 (j := (shp L).B i) (by rw [List.length_set, hFl]; exact hB) rfl
            have q4 := frozen_of_row _ _ ((shp L).B i) _ 3 n2
            have hAi : (((shp L).A i : Nat) : Int) < (L.length : Int) := by omega
            have hBi : (((shp L).B i : Nat) : Int) < (L.length : Int) := by omega
            have hAb : (shp L).A i ≤ 2199023255552 := by omega
            have hBb : (shp L).B i ≤ 2199023255552 := by omega
            have y7s : (w7.setCell ⟨w2.heap.size, (shp L).A i, none⟩ (.int .i64 (fa : Nat))).cell? ⟨wr.heap.size, 7, none⟩ = some (.int .i64 ((shp L).B i : Nat)) := by
              rw [← y7]
              exact World.cell?_of_block (neq_setM w7 w2.heap.size _ _ wr.heap.size (by omega))
            obtain ⟨a7, c7, rfl, -, -⟩ := hO7.shape
            replace hNx : Hid _ := hNx
            replace n1 : Hid _ := n1
            replace n2 : Hid _ := n2
            replace tx7 : Hid _ := tx7
            clear hcf hcfa g7 hO7
            rw [show (l ++ [(i, fa, T)]).length = l.length + 1 by simp] at hNx
            go_simp
            go_wp2_with fail
            go_region
            all_goals
              go_simp
              go_wp2_with fail
              go_region
              all_goals
                go_simp
                go_wp2_with fail
                have hR2 := hNx.out.drew.drew
                rw [htn.out] at hR2
                exact ⟨⟨j + 1, _, _, by omega, by go_num, hR2⟩, by simp [intOf]; omega⟩
      · have hjc : ¬ (j : Int) < (b.pre.length : Int) := by omega
        obtain rfl : j = b.pre.length := by omega
        have hnm := hI.nm
        rw [List.take_length, hb.pre_inn] at hnm
        have hfin := marks_one hT hb l (b.mks 0) (by rw [hnm, b.mks_inn]) hI.mks (hb.fr_mks 0)
        obtain ⟨va, vc, hve, hvc, -⟩ := hI.own.shape
        subst hve
        replace hI : Hid _ := hI
        replace hfin : Hid _ := hfin
        replace hnm : Hid _ := hnm
        go_wp2_with fail
        go_ret2
        exact ⟨.slice va l.length vc, by rw [hE.out]; rfl, l, own_mono hI.out.own k04.le, fun h => absurd hE.out h, fun b2 _ h2 => by rw [← hb.one h2]; exact hfin.out, hI.out.kp⟩
  · have c1 : (lvE L != 0) = true := by rw [bne_iff_ne]; exact hE
    replace hE : Hid _ := hE
    clear hC
    go_wp2_with fail
    go_ret2
    exact ⟨.slice none 0 0, [], rfl, OwnM.nil _ _, fun _ => rfl, fun b h _ => absurd h hE.out, k02⟩
end Go.Proofs.YtcdcheecaphmgaaDoor
