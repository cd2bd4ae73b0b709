import Derived.Test.YtcdcheecaphmgaaDoorM41
import Derived.Test.YtcdcheecaphmgaaDoorM20
import Derived.Deep.Cut
set_option linter.unusedVariables false
set_option linter.unusedSimpArgs false
namespace Go.Proofs.YtcdcheecaphmgaaDoor
open Go.RowKit Go.Shelf
attribute [local go_sem] run_store_float
theorem inn_bt {L : List Nd} (hE : shE L = 0) {b : BT} (hT : Tr (shp L) L.length) (hb : Bt (shp L) b 0) : inn L = b.inn := by
  unfold inn
  rw [if_pos hE, ord_bt hT hb, ← hb.pre_inn]
  rfl
theorem BT.inn_len (b : BT) : b.nl = b.inn.length + 1 := by
  induction b with
  | leaf i => rfl
  | node i l r hl hr => simp only [BT.nl, BT.inn, List.length_cons, List.length_append]; omega
theorem drewN_keep {a b : World} (h : Keep a b) (q : Nat) : Keep a (b.drewN q) := ⟨h.os, h.tape, h.output, h.size, h.block⟩
/-- What a mark says. -/
theorem mark_at {L : List Nd} {b : BT} (hb : Bt (shp L) b 0) {j : Nat} (hj : j < (b.mks 0).length) :
    ∃ mi mf mt c, (b.mks 0).getD j m0 = (mi, mf, mt) ∧ b.inn.getD j 0 = mi ∧ mf < mt ∧ mt < b.nl ∧ mt = mf + c.nl ∧ Bt (shp L) c ((shp L).A mi) ∧ (shp L).K mi = true ∧ (shp L).A mi ∈ b.pre ∧ mi ∈ b.pre := by
  have e : (b.mks 0).getD j m0 = (b.mks 0)[j] := by simp [List.getD, hj]
  obtain ⟨c, h1, h2, h3, h4, h5, h6, h7⟩ := hb.mks_sub 0 (b.mks 0)[j] (List.getElem_mem hj)
  have hp := c.nl_pos
  have e2 : b.inn.getD j 0 = ((b.mks 0)[j]).1 := by
    rw [← b.mks_inn 0]
    simp [List.getD, hj]
  generalize (b.mks 0)[j] = x at *
  obtain ⟨mi, mf, mt⟩ := x
  simp only at *
  exact ⟨mi, mf, mt, c, e, e2, by omega, by omega, h3, h1, h2, h5, h6⟩
set_option maxRecDepth 100000 in
set_option maxHeartbeats 4000000 in
theorem law_nested (a : Option Addr) (cap : Nat) (out : Int) (L : List Nd) (hL : L.length ≤ 1759218604441) (w : World) (hTab : Bi.Tab w) (hrd : RdN w a L) :
    Calls Tryd.prog 7 #[.agg #[.int .i64 out, .slice a L.length cap]] w fun e w' => e = .returned (.bool true) ∧ Keep w w' := by
  have hLn : L.length ≤ 2199023255552 := by omega
  obtain ⟨w1, hw1, k1, tb⟩ : ∃ w1, w.alloc (Obj.cells #[Value.int IntKind.i64 out, Value.slice a L.length cap] 24) = w1 ∧ Keep w w1 ∧ w1.heap[w.heap.size]? = some (Obj.cells #[Value.int IntKind.i64 out, Value.slice a L.length cap] 24 (0, 0)) := ⟨_, rfl, (Keep.refl w).alloc _, heap_alloc_new w _⟩
  have x0 := cell_of_row _ _ 0 _ 24 (0, 0) tb
  have x1 := cell_of_row _ _ 1 _ 24 (0, 0) tb
  simp only [List.getElem?_toArray, List.getElem?_cons_zero, List.getElem?_cons_succ] at x0 x1
  have h14 := lives_any w1 (hTab.keep k1)
  have h10 := fun (wx : World) (k : Keep w1 wx) => Marks_any a cap out L hLn wx (hrd.keep (k1.trans k))
  have h26 := fun (wx : World) (k : Keep w1 wx) => Leaves_any a cap out L hLn wx (hrd.keep (k1.trans k))
  have h32 := fun (wx : World) (k : Keep w1 wx) => Inner_any a cap out L hLn wx (hrd.keep (k1.trans k))
  replace hw1 : Hid _ := hw1
  clear tb
  go_enter Tryd.func7, Tryd.ntmps7
  go_upto_region 1 with fail
  rw [hw1.out]
  by_cases hE : lvE L = 0
  · obtain ⟨hS, hR, hT, b, hb, hlv, hn4⟩ := lvE_ok hE
    have hin := inn_bt hS hT hb
    have hord := ord_bt hT hb
    have hpreL : ∀ x ∈ b.pre, x < L.length := fun x hx => ord_lt hT.wi x (by rw [hord]; exact hx)
    have hpn : b.pre.Nodup := by rw [← hord]; exact ord_nodup hT.wi
    replace hord : Hid _ := hord
    rw [hE] at h10
    unfold LstE at h26 h32
    rw [hlv, hS] at h26
    rw [hin, hS] at h32
    have hnl := b.inn_len
    have hml : (b.mks 0).length = b.inn.length := by rw [← b.mks_inn 0, List.length_map]
    have hll := b.lv_len
    have hB1 : (((b.mks 0).length : Int) != (b.inn.length : Int)) = false := by rw [hml]; simp
    have hB2 : ((b.lv.length : Int) != (b.inn.length : Int) + 1) = false := by rw [hll, hnl]; simp
    have hmb : (b.mks 0).length ≤ 4096 := by omega
    have hib : b.inn.length ≤ 4096 := by omega
    have hvb : b.lv.length ≤ 4096 := by omega
    replace hml : Hid _ := hml
    replace hll : Hid _ := hll
    replace hnl : Hid _ := hnl
    replace hlv : Hid _ := hlv
    replace hin : Hid _ := hin
    replace hS : Hid _ := hS
    replace hE : Hid _ := hE
    go_upto_region 10 with (first
      | (go_at_call 14; refine h14.mono ?_; rintro e w2 ⟨rfl, k2⟩; have y0 := k2.cell x0; have y1 := k2.cell x1)
      | (go_at_call 10; refine (h10 _ k2).mono ?_; rintro e w3 ⟨v3, l3, rfl, o3, -, q3, k3⟩; have k13 := k2.trans k3; have z0 := k13.cell x0; have z1 := k13.cell x1; have e3 := q3 b trivial hb; subst e3; obtain ⟨a3, c3, rfl, hc3, r3⟩ := o3.shape; clear q3)
      | (go_at_call 26; refine (h26 _ k13).mono ?_; rintro e w4 ⟨v4, rfl, o4, -, k4⟩; have k14 := k13.trans k4; have t0 := k14.cell x0; have t1 := k14.cell x1; obtain ⟨a4, c4, rfl, hc4⟩ := o4.shape)
      | (go_at_call 32; refine (h32 _ k14).mono ?_; rintro e w5 ⟨v5, rfl, o5, -, k5⟩; have k15 := k14.trans k5; obtain ⟨a5, c5, rfl, hc5⟩ := o5.shape))
    clear h10 h14 h32 hB1 hB2
    have k35 := k4.trans k5
    replace o4 : Hid _ := o4
    go_wp2_with fail
    go_loopw [54] (fun i wr => ∃ j : Nat, j ≤ (b.mks 0).length ∧ i = .int .i64 j ∧ Keep w5 wr) (fun i _ => (b.mks 0).length - (intOf i).toNat)
    case atStart => exact ⟨0, by omega, rfl, Keep.refl _⟩
    case round =>
      obtain ⟨j, hj, rfl, kr⟩ := hrel
      by_cases hjl : j < (b.mks 0).length
      · have hjc : (j : Int) < ((b.mks 0).length : Int) := by omega
        obtain ⟨mi, mf, mt, c, em, ei, hft, htn, hmt, hc, hK, hApre, hmpre⟩ := mark_at hb hjl
        obtain ⟨bm, om, hae, d0, d1, d2⟩ := (r3.keep (k35.trans kr)) j hjl
        rw [em] at d0 d1 d2
        simp only at d0 d1 d2
        have hji : j < b.inn.length := by have := hml.out; omega
        obtain ⟨g5, cp5, e5, -, -, hc5⟩ := o5.cells (by omega)
        simp only [Value.slice.injEq, true_and] at e5
        obtain ⟨rfl, rfl⟩ := e5
        have i5 := kr.cell (hc5 j hji)
        rw [ei] at i5
        subst hae
        obtain ⟨wq, hwq⟩ : ∃ wq, wq = wr := ⟨_, rfl⟩
        subst hwq
        have s0 : ((mi : Int) != (mi : Int)) = false := by simp
        have s1 : decide ((mf : Int) < 0) = false := decide_eq_false (by omega)
        have s2 : decide ((mt : Int) ≤ (mf : Int)) = false := decide_eq_false (by omega)
        have s3 : decide ((b.lv.length : Int) ≤ (mt : Int)) = false := decide_eq_false (by have := hll.out; omega)
        have hjic : (j : Int) < (b.inn.length : Int) := by omega
        have s4 : (mt : Int) < (b.lv.length : Int) := by have := hll.out; omega
        have hz5 : g5 < wq.heap.size := World.block_lt_of_cell? _ _ i5
        replace em : Hid _ := em
        replace ei : Hid _ := ei
        replace hmt : Hid _ := hmt
        replace hK : Hid _ := hK
        clear hc5
        go_wp2_with fail
        go_quiet (fail)
        go_wp2_with fail
        obtain ⟨w6, hw6⟩ : ∃ w6, w6 = (wq.alloc (Obj.cells #[Value.int IntKind.i64 (mi : Nat), Value.int IntKind.i64 (mf : Nat), Value.int IntKind.i64 (mt : Nat)] 52)).drewN nq := ⟨_, rfl⟩
        have kq6 : Keep wq w6 := by rw [hw6]; exact drewN_keep ((Keep.refl wq).alloc _) _
        have hb6 : w6.heap[wq.heap.size]? = some (Obj.cells #[Value.int IntKind.i64 (mi : Nat), Value.int IntKind.i64 (mf : Nat), Value.int IntKind.i64 (mt : Nat)] 52 (0, 0)) := by rw [hw6]; exact heap_alloc_new wq _
        rw [← hw6]
        clear hw6
        have m0' := cell_of_row _ _ 0 _ 52 (0, 0) hb6
        have m1' := cell_of_row _ _ 1 _ 52 (0, 0) hb6
        have m2' := cell_of_row _ _ 2 _ 52 (0, 0) hb6
        simp only [List.getElem?_toArray, List.getElem?_cons_zero, List.getElem?_cons_succ] at m0' m1' m2'
        clear s0 s1 s2 s3 hb6
        go_loopw [89] (fun i wr => ∃ k : Nat, k ≤ j ∧ i = .int .i64 k ∧ Keep w6 wr) (fun i _ => j - (intOf i).toNat)
        case atStart => exact ⟨0, by omega, rfl, Keep.refl _⟩
        case round =>
          obtain ⟨k, hk, rfl, ks⟩ := hrel
          have n0' := ks.cell m0'
          have n1' := ks.cell m1'
          have n2' := ks.cell m2'
          have hzb : wq.heap.size < wr.heap.size := World.block_lt_of_cell? _ _ n0'
          by_cases hkj : k < j
          · have hkc : (k : Int) < (j : Int) := by omega
            obtain ⟨oi, of', ot, c2, em2, -, -, -, -, -, -, -, -⟩ := mark_at hb (show k < (b.mks 0).length by omega)
            obtain ⟨bm2, om2, hae2, f0, f1, f2⟩ := (r3.keep (((k35.trans kr).trans kq6).trans ks)) k (by omega)
            simp only [Option.some.injEq, Addr.mk.injEq, and_true] at hae2
            obtain ⟨rfl, rfl⟩ := hae2
            rw [em2] at f0 f1 f2
            simp only at f0 f1 f2
            have hx : (mi, mf, mt) ∈ b.mks 0 := by rw [← em.out, List.getD_eq_getElem?_getD, List.getElem?_eq_getElem hjl]; exact List.getElem_mem hjl
            have hy : (oi, of', ot) ∈ b.mks 0 := by rw [← em2, List.getD_eq_getElem?_getD, List.getElem?_eq_getElem (show k < (b.mks 0).length by omega)]; exact List.getElem_mem _
            have nx := b.nest 0 _ hx _ hy
            have ny := b.nest 0 _ hy _ hx
            simp only at nx ny
            have hcs : (¬ mf < of' ∨ (mf < of' ∧ ¬ of' < mt) ∨ (mf < of' ∧ of' < mt ∧ ¬ mt < ot)) ∧ (¬ of' < mf ∨ (of' < mf ∧ ¬ mf < ot) ∨ (of' < mf ∧ mf < ot ∧ ¬ ot < mt)) := by omega
            clear nx ny hx hy em2
            obtain ⟨hp, hq⟩ := hcs
            rcases hp with p1 | ⟨p1, p2⟩ | ⟨p1, p2, p3⟩ <;> rcases hq with q1 | ⟨q1, q2⟩ | ⟨q1, q2, q3⟩
            · have P1 : ¬ ((mf : Int) < (of' : Int)) := by omega
              have Q1 : ¬ ((of' : Int) < (mf : Int)) := by omega
              go_wp2_with fail
              exact ⟨⟨k + 1, by omega, by go_num, ks.alloc _⟩, by simp [intOf]; omega⟩
            · have P1 : ¬ ((mf : Int) < (of' : Int)) := by omega
              have Q1 : ((of' : Int) < (mf : Int)) := by omega
              have Q2 : ¬ ((mf : Int) < (ot : Int)) := by omega
              go_wp2_with fail
              exact ⟨⟨k + 1, by omega, by go_num, ks.alloc _⟩, by simp [intOf]; omega⟩
            · have P1 : ¬ ((mf : Int) < (of' : Int)) := by omega
              have Q1 : ((of' : Int) < (mf : Int)) := by omega
              have Q2 : ((mf : Int) < (ot : Int)) := by omega
              have Q3 : ¬ ((ot : Int) < (mt : Int)) := by omega
              go_wp2_with fail
              exact ⟨⟨k + 1, by omega, by go_num, ks.alloc _⟩, by simp [intOf]; omega⟩
            · have P1 : ((mf : Int) < (of' : Int)) := by omega
              have P2 : ¬ ((of' : Int) < (mt : Int)) := by omega
              have Q1 : ¬ ((of' : Int) < (mf : Int)) := by omega
              go_wp2_with fail
              exact ⟨⟨k + 1, by omega, by go_num, ks.alloc _⟩, by simp [intOf]; omega⟩
            · exfalso; omega
            · exfalso; omega
            · have P1 : ((mf : Int) < (of' : Int)) := by omega
              have P2 : ((of' : Int) < (mt : Int)) := by omega
              have P3 : ¬ ((mt : Int) < (ot : Int)) := by omega
              have Q1 : ¬ ((of' : Int) < (mf : Int)) := by omega
              go_wp2_with fail
              exact ⟨⟨k + 1, by omega, by go_num, ks.alloc _⟩, by simp [intOf]; omega⟩
            · exfalso; omega
            · exfalso; omega
          · have hkc : ¬ (k : Int) < (j : Int) := by omega
            have kA := ((k15.trans kr).trans kq6).trans ks
            have g0 := kA.cell x0
            have g1 := kA.cell x1
            have hmL := hpreL mi hmpre
            obtain ⟨bn, on, cn, cpn, hane, hN⟩ := (hrd.keep (k1.trans kA)) mi hmL
            obtain ⟨⟨e1, e1a, e1b⟩, -⟩ := hR.kids hmL hK.out
            have c0 := hN.c0
            have c1 := hN.c1
            have c2 := hN.c2
            have c3' := hN.c3
            have c4' := hN.c4
            have c5' := hN.c5
            have c6 := hN.c6
            have c7 := hN.c7
            rw [e1] at c6
            obtain ⟨N, hNe⟩ : ∃ N, L.getD mi nd0 = N := ⟨_, rfl⟩
            rw [hNe] at c0 c1 c2 c3' c4' c5' c7
            have hmLc : (mi : Int) < (L.length : Int) := by omega
            obtain ⟨hcn, -, hcs⟩ := hb.sub_nodup hpn _ hApre c hc
            have h9 := fun (wx : World) (k : Keep wr wx) => rNodes_any a cap L wx hL (hrd.keep (k1.trans (kA.trans k)))
            have h33 := fun (an : Option Addr) (cn : Nat) (wx : World) (h : RdN wx an L) => under_any an cn ((shp L).A mi) L hL hR hc hcn (fun x hx => hpreL x (hcs x hx)) wx h
            have h26b := fun (av : Option Addr) (cv : Nat) (l : List Nat) (f : Nat → Nat) (wx : World) (h : RdN wx av (unL L l f)) (hp : l.Perm c.pre) => Leaves_any av cv 0 (unL L l f) (by rw [unL_len, hp.length_eq]; have := nodup_len hcn (fun x hx => hpreL x (hcs x hx)); omega) wx h
            have hlv2 := fun (l : List Nat) (f : Nat → Nat) (hp : l.Perm c.pre) (hf : Plc l f) (h0 : f ((shp L).A mi) = 0) => un_lvs hR hc (fun x hx => hpreL x (hcs x hx)) hp hf h0
            have hzt : w.heap.size < wr.heap.size := World.block_lt_of_cell? _ _ g0
            have hzn : bn < wr.heap.size := World.block_lt_of_cell? _ _ c0
            generalize (shp L).A mi = A at *
            subst hane
            clear hN hNe e1 hcs hcn
            go_upto_region 23 with (go_at_call 9; refine (h9 _ ((Keep.refl wr).alloc _)).mono ?_; rintro e w7 ⟨v7, rfl, ⟨K7, hN7⟩, k7⟩; obtain ⟨an, cn7, rfl, hcn7, hC7⟩ := hN7.ct)
            have kr7 : Keep wr w7 := ((Keep.refl wr).alloc _).trans k7
            have kr8 : Keep wr (w7.alloc (Obj.cells #[Value.int IntKind.i64 0, Value.slice an L.length cn7] 24)) := kr7.alloc _
            have hnb : w7.heap[wr.heap.size]? = some (Obj.cells #[Value.int .u8 N.kd, Value.int .i64 N.vl, Value.int .i64 N.ft, Value.float .f64 N.th, Value.slice cn N.cs.length cpn, Value.int .u8 N.ms, Value.int .i64 (A : Nat), Value.int .i64 N.rt] 63 (0, 0)) := (k7.block _ (by rw [World.size_alloc]; omega)).trans (heap_alloc_new wr _)
            have e6 := cell_of_row _ _ 6 _ 63 (0, 0) hnb
            simp only [List.getElem?_toArray, List.getElem?_cons_zero, List.getElem?_cons_succ] at e6
            have hz7 : wr.heap.size < w7.heap.size := (Array.getElem?_eq_some_iff.1 hnb).1
            have hr7 : RdN (w7.alloc (Obj.cells #[Value.int IntKind.i64 0, Value.slice an L.length cn7] 24)) an L := (hC7.rdN hrd).keep ((Keep.refl w7).alloc _)
            have hbx : (w7.alloc (Obj.cells #[Value.int IntKind.i64 0, Value.slice an L.length cn7] 24)).heap[w7.heap.size]? = some (Obj.cells #[Value.int IntKind.i64 0, Value.slice an L.length cn7] 24 (0, 0)) := heap_alloc_new w7 _
            have hbz := (Array.getElem?_eq_some_iff.1 hbx).1
            replace hbx : Hid _ := hbx
            replace hnb : Hid _ := hnb
            clear h9 hN7 hC7 c0 c1 c2 c3' c4' c5' c6 c7
            go_upto_region 24 with (go_at_call 33; refine (h33 _ _ _ hr7).mono ?_; rintro e w8 ⟨av, cv, l8, f8, rfl, r8, hp8, hf8, h08, k8⟩; have hb8 := (k8.block _ hbz).trans hbx.out; have y0' := cell_of_row _ _ 0 _ 24 (0, 0) hb8; have y1' := cell_of_row _ _ 1 _ 24 (0, 0) hb8; simp only [List.getElem?_toArray, List.getElem?_cons_zero, List.getElem?_cons_succ] at y0' y1'; have fz8 := frozen_of_row w8 w7.heap.size 1 _ 24 hb8; replace hb8 : Hid _ := hb8)
            obtain ⟨hs8, hl8⟩ := hlv2 l8 f8 hp8 hf8 h08
            have kS : Keep wr (w8.setCell ⟨w7.heap.size, 1, none⟩ (Value.slice av l8.length cv)) := (kr8.trans k8).setCell (p := ⟨w7.heap.size, 1, none⟩) (Nat.le_of_lt hz7) _
            have h26c := h26b av cv l8 f8 _ (r8.setBox (v := Value.slice av l8.length cv) (fun _ _ h => by cases h) hb8.out) hp8
            rw [hs8, unL_len] at h26c
            have hB9 : ((c.nl : Int) != (mt : Int) - (mf : Int)) = false := by have := hmt.out; simp; omega
            have hB9' : ((c.nl : Int) == (mt : Int) - (mf : Int)) = true := by have := hmt.out; simp; omega
            have hcb : c.nl ≤ 4096 := by have := hmt.out; omega
            generalize lvs (unL L l8 f8) = ls at *
            replace hl8 : Hid _ := hl8
            replace hs8 : Hid _ := hs8
            clear h33 hlv2 h26b h26 hr7 r8
            go_wp2_with (go_at_call 26; refine h26c.mono ?_; rintro e w9 ⟨v9, rfl, o9, -, k9⟩; obtain ⟨a9, c9, e9, hc9⟩ := o9.shape; rw [hl8.out] at e9; subst e9; have k29 := kS.trans k9; have p0' := k29.cell n0'; have p1' := k29.cell n1'; have p2' := k29.cell n2')
            exact ⟨⟨j + 1, by omega, by go_num, ((kr.trans kq6).trans ks).trans k29⟩, by simp [intOf]; omega⟩
      · have hjc : ¬ (j : Int) < ((b.mks 0).length : Int) := by omega
        have kf := k1.trans (k15.trans kr)
        go_wp2_with fail
        go_ret
        exact ⟨rfl, kf⟩
  · have hB1 : (lvE L == 0) = false := by simpa using hE
    have hB2 : (lvE L != 0) = true := by simpa using hE
    replace hE : Hid _ := hE
    clear h26 h32
    go_wp2_with (first
      | (go_at_call 14; refine h14.mono ?_; rintro e w2 ⟨rfl, k2⟩; have y0 := k2.cell x0; have y1 := k2.cell x1)
      | (go_at_call 10; refine (h10 _ k2).mono ?_; rintro e w3 ⟨v3, l3, rfl, o3, q3, -, k3⟩; have k13 := k2.trans k3; have e3 := q3 hE.out; subst e3; obtain ⟨a3, c3, rfl, hc3, r3⟩ := o3.shape; clear q3))
    go_ret
    exact ⟨rfl, k1.trans k13⟩
end Go.Proofs.YtcdcheecaphmgaaDoor
