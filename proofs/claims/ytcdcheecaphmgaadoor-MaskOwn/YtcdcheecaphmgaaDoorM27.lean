import Derived.Test.YtcdcheecaphmgaaDoorM25
import Derived.Test.YtcdcheecaphmgaaDoorBH3
set_option linter.unusedVariables false
set_option linter.unusedSimpArgs false
namespace Go.Proofs.YtcdcheecaphmgaaDoor
open Go.RowKit Go.Shelf
set_option maxRecDepth 100000 in
set_option maxHeartbeats 1000000 in
theorem rExit_any (a ax : Option Addr) (cap cx : Nat) (out : Int) (L : List Nd) (xs : List Nat) (hLn : L.length ≤ 2199023255552) (hxl : xs.length ≤ 17592186044416) (w : World) (hrd : RdN w a L) (hxd : RdF w ax xs) :
    Calls Tryd.prog 23 #[.agg #[.int .i64 out, .slice a L.length cap], .slice ax xs.length cx] w fun e w' => ∃ (k : Nat) (v : Int), e = .returned (.tuple #[.int .i64 (k : Nat), .int .i64 v, .int .i64 (lvG L xs.length)]) ∧ (lvG L xs.length ≠ 0 → k = 0 ∧ v = 0) ∧ (∀ b, lvG L xs.length = 0 → Bt (shp L) b 0 → k = extI L xs b ∧ v = (L.getD (b.lv.getD (extI L xs b) 0) nd0).vl) ∧ Keep w w' := by
  have k0 : Keep w (w.alloc (Obj.cells #[Value.int IntKind.i64 out, Value.slice a L.length cap] 24)) := (Keep.refl w).alloc _
  have tb : (w.alloc (Obj.cells #[Value.int IntKind.i64 out, Value.slice a L.length cap] 24)).heap[w.heap.size]? = some (Obj.cells #[Value.int IntKind.i64 out, Value.slice a L.length cap] 24 (0, 0)) := heap_alloc_new w _
  have hC := rReach_any a ax cap cx out L xs hLn hxl _ (hrd.keep k0) (hxd.keep k0)
  go_enter Tryd.func23, Tryd.ntmps23
  go_wp2_with fail
  generalize w.alloc (Obj.cells #[Value.int IntKind.i64 out, Value.slice a L.length cap] 24) = w1 at *
  refine hC.mono ?_
  rintro e w2 ⟨v, rfl, h2, h1, k2⟩
  have k02 := k0.trans k2
  by_cases hF : lvG L xs.length = 0
  · have c1 : (lvG L xs.length != 0) = false := by rw [bne_eq_false_iff_eq]; exact hF
    obtain ⟨hE, hlk⟩ := lvG_ok hF
    obtain ⟨-, hR, hT, b, hb, hlv, hn⟩ := lvE_ok hE
    have t2 := (k2.block _ (Array.getElem?_eq_some_iff.1 tb).1).trans tb
    have x0 := cell_of_row _ _ 0 _ 24 (0, 0) t2
    have x1 := cell_of_row _ _ 1 _ 24 (0, 0) t2
    simp only [List.getElem?_toArray, List.getElem?_cons_zero, List.getElem?_cons_succ] at x0 x1
    obtain ⟨l, ar, cr, rfl, hrr, hmk⟩ := h1 b hF hb
    obtain ⟨hx1, hx2, hx3⟩ := ext_left hR hT xs hb
    have hln : (lvs L).length = b.nl := by rw [hlv, b.lv_len]
    have hM := rLeaves_any a cap out L hLn w2 (hrd.keep k02)
    obtain ⟨ee, hee⟩ : ∃ ee, extI L xs b = ee := ⟨_, rfl⟩
    rw [hee] at hx1 hx2 hx3
    have hlow := low_eq hmk hx1 hx2 hx3
    have hql : l.length ≤ 65 := by rw [hmk.1]; omega
    obtain ⟨nd, hnd⟩ : ∃ nd, b.lv.getD ee 0 = nd := ⟨_, rfl⟩
    have hndL : nd < L.length := by
      have h3 : nd ∈ b.lv := by
        rw [← hnd, List.getD_eq_getElem?_getD, List.getElem?_eq_getElem (by rw [b.lv_len]; exact hx1)]
        exact List.getElem_mem _
      refine ord_lt hT.wi nd ?_
      rw [ord_bt hT hb]
      rw [← hb.pre_lv] at h3
      exact (List.mem_filter.1 h3).1
    replace hrr : Hid _ := hrr
    replace hmk : Hid _ := hmk
    replace hlow : Hid _ := hlow
    replace hF : Hid _ := hF
    replace hE : Hid _ := hE
    replace hlk : Hid _ := hlk
    replace hlv : Hid _ := hlv
    replace hln : Hid _ := hln
    replace hnd : Hid _ := hnd
    replace hee : Hid _ := hee
    replace t2 : Hid _ := t2
    clear hC h1 h2
    go_wp2_with fail
    refine hM.mono ?_
    rintro e w3 ⟨v3, rfl, h3, -, k3⟩
    obtain ⟨gl, cl, rfl, hcl, -, hlc⟩ := OwnI.cells h3 (by rw [hln.out]; exact b.nl_pos)
    have hle := hlc ee (by rw [hln.out]; exact hx1)
    rw [hlv.out, hnd.out] at hle
    have hL := Bi.rLowest_any ar cr l w3 (by omega) (rd_keep hrr.out k3) hmk.out.2.1
    rw [hlow.out] at hL
    rw [hln.out]
    have k03 := k02.trans k3
    have t3 := (k3.block _ (Array.getElem?_eq_some_iff.1 t2.out).1).trans t2.out
    clear hlc h3 hM
    go_wp2_with fail
    refine hL.mono ?_
    rintro e w4 ⟨rfl, k4⟩
    have k4 : Keep _ _ := k4
    have k03 := k03.trans k4
    have t4 := (k4.block _ (Array.getElem?_eq_some_iff.1 t3).1).trans t3
    have y1 := cell_of_row _ _ 1 _ 24 (0, 0) t4
    simp only [List.getElem?_toArray, List.getElem?_cons_zero, List.getElem?_cons_succ] at y1
    have hle3 := k4.cell hle
    clear hL t3 t4 hle
    obtain ⟨bb, o, ca, cpn, rfl, hN⟩ := hrd.keep k03 nd hndL
    have n1 := hN.c1
    have hxi : (ee : Int) < (b.nl : Int) := by omega
    have hxb : ee ≤ 4096 := by omega
    have hndi : (nd : Int) < (L.length : Int) := by omega
    have hndb : nd ≤ 2199023255552 := by omega
    obtain ⟨V, hV⟩ : ∃ V, (L.getD nd nd0).vl = V := ⟨_, rfl⟩
    rw [hV] at n1
    replace hV : Hid _ := hV
    clear hN
    go_wp2_with fail
    go_region
    all_goals
      go_simp
      go_wp2_with fail
      go_ret3
      exact ⟨ee, V, by rw [hF.out]; rfl, fun h => absurd hF.out h, fun b2 _ h2 => by rw [← hb.one h2, hee.out, hnd.out, hV.out]; exact ⟨rfl, rfl⟩, Keep.drew k03⟩
  · have c1 : (lvG L xs.length != 0) = true := by rw [bne_iff_ne]; exact hF
    have h2 := h2 hF
    subst h2
    replace hF : Hid _ := hF
    clear hC h1
    go_wp2_with fail
    go_ret3
    exact ⟨0, 0, rfl, fun _ => ⟨rfl, rfl⟩, fun b h _ => absurd h hF.out, k02⟩
end Go.Proofs.YtcdcheecaphmgaaDoor
set_option linter.unusedVariables false
set_option linter.unusedSimpArgs false
namespace Go.Proofs.YtcdcheecaphmgaaDoor
open Go.RowKit Go.Shelf
theorem false_eq {L : List Nd} {xs : List Nat} {l m : List (Nat × Nat × Nat)} (h1 : lvG L xs.length ≠ 0 → l = []) (h2 : ∀ b, lvG L xs.length = 0 → Bt (shp L) b 0 → l = flm L xs (b.mks 0)) (g1 : lvG L xs.length ≠ 0 → m = []) (g2 : ∀ b, lvG L xs.length = 0 → Bt (shp L) b 0 → m = flm L xs (b.mks 0)) : l = m ∧ m.length ≤ 4096 := by
  by_cases hE : lvG L xs.length = 0
  · obtain ⟨-, -, -, b, hb, -, hn⟩ := lvE_ok (lvG_ok hE).1
    rw [h2 b hE hb, g2 b hE hb]
    have h3 : (flm L xs (b.mks 0)).length ≤ (b.mks 0).length := List.length_filter_le _ _
    have := b.mks_len 0
    exact ⟨rfl, by omega⟩
  · rw [h1 hE, g1 hE]; exact ⟨rfl, by simp⟩
/-- Both Reaches say one set. -/
theorem reach_eq {L : List Nd} {xs : List Nat} {v1 v2 : Value} {w w1 w2 : World} (k : Keep w1 w2) (h1 : lvG L xs.length ≠ 0 → v1 = .slice none 0 0) (h2 : ∀ b, lvG L xs.length = 0 → Bt (shp L) b 0 → ∃ l g, v1 = .slice (some ⟨g, 0, none⟩) (l : List Nat).length l.length ∧ w.heap.size ≤ g ∧ Bi.Row w1 g l ∧ Bi.mkl b.nl (lftF (flm L xs (b.mks 0))) l)
    (g1 : lvG L xs.length ≠ 0 → v2 = .slice none 0 0) (g2 : ∀ b, lvG L xs.length = 0 → Bt (shp L) b 0 → ∃ l ar cr, v2 = .slice ar (l : List Nat).length cr ∧ Bi.Rd w2 ar l ∧ Bi.mkl b.nl (lftF (flm L xs (b.mks 0))) l) :
    ∃ l a1 c1 a2 c2, v1 = .slice a1 (l : List Nat).length c1 ∧ v2 = .slice a2 l.length c2 ∧ Bi.Rd w2 a1 l ∧ Bi.Rd w2 a2 l ∧ l.length ≤ 10000 := by
  by_cases hE : lvG L xs.length = 0
  · obtain ⟨-, -, -, b, hb, -, hn⟩ := lvE_ok (lvG_ok hE).1
    obtain ⟨l, g, e1, -, hr, hm⟩ := h2 b hE hb
    obtain ⟨l2, ar, cr, e2, hr2, hm2⟩ := g2 b hE hb
    have e := Bi.mkl_eq hm2 hm
    subst e
    exact ⟨l2, _, _, _, _, e1, e2, rd_keep (fun j hj => ⟨g, 0, rfl, by rw [Nat.zero_add]; exact hr.cell j hj⟩) k, hr2, by rw [hm.1]; omega⟩
  · exact ⟨[], none, 0, none, 0, h1 hE, g1 hE, fun j hj => by simp at hj, fun j hj => by simp at hj, by simp⟩
theorem exit_eq {L : List Nd} {xs : List Nat} {k m : Nat} {v u : Int} (h1 : lvG L xs.length ≠ 0 → k = 0 ∧ v = 0) (h2 : ∀ b, lvG L xs.length = 0 → Bt (shp L) b 0 → k = extI L xs b ∧ v = (L.getD (b.lv.getD (extI L xs b) 0) nd0).vl) (g1 : lvG L xs.length ≠ 0 → m = 0 ∧ u = 0) (g2 : ∀ b, lvG L xs.length = 0 → Bt (shp L) b 0 → m = extI L xs b ∧ u = (L.getD (b.lv.getD (extI L xs b) 0) nd0).vl) : k = m ∧ v = u := by
  by_cases hE : lvG L xs.length = 0
  · obtain ⟨-, -, -, b, hb, -, hn⟩ := lvE_ok (lvG_ok hE).1
    obtain ⟨a1, a2⟩ := h2 b hE hb
    obtain ⟨b1, b2⟩ := g2 b hE hb
    exact ⟨by rw [a1, b1], by rw [a2, b2]⟩
  · obtain ⟨a1, a2⟩ := h1 hE
    obtain ⟨b1, b2⟩ := g1 hE
    exact ⟨by rw [a1, b1], by rw [a2, b2]⟩
set_option maxRecDepth 100000 in
set_option maxHeartbeats 2000000 in
theorem law_false (a ax : Option Addr) (cap cx : Nat) (out : Int) (L : List Nd) (xs : List Nat) (hLn : L.length ≤ 2199023255552) (hxl : xs.length ≤ 17592186044416) (w : World) (hTab : Bi.Tab w) (hrd : RdN w a L) (hxd : RdF w ax xs) :
    Calls Tryd.prog 4 #[.agg #[.int .i64 out, .slice a L.length cap], .slice ax xs.length cx] w fun e w' => e = .returned (.bool true) ∧ Keep w w' := by
  obtain ⟨w1, hw1, k1, tb⟩ : ∃ w1, w.alloc (Obj.cells #[Value.int IntKind.i64 out, Value.slice a L.length cap] 24) = w1 ∧ Keep w w1 ∧ w1.heap[w.heap.size]? = some (Obj.cells #[Value.int IntKind.i64 out, Value.slice a L.length cap] 24 (0, 0)) := ⟨_, rfl, (Keep.refl w).alloc _, heap_alloc_new w _⟩
  have x0 := cell_of_row _ _ 0 _ 24 (0, 0) tb
  have x1 := cell_of_row _ _ 1 _ 24 (0, 0) tb
  simp only [List.getElem?_toArray, List.getElem?_cons_zero, List.getElem?_cons_succ] at x0 x1
  have hA := False_any a ax cap cx out L xs hLn hxl w1 (hrd.keep k1) (hxd.keep k1)
  replace hw1 : Hid _ := hw1
  go_enter Tryd.func4, Tryd.ntmps4
  go_wp2_with fail
  rw [hw1.out]
  refine hA.mono ?_
  rintro e w2 ⟨v2, l2, rfl, hO2, p2, q2, k2⟩
  obtain ⟨a2, c2, rfl, -, hr2⟩ := hO2.shape
  have k02 := k1.trans k2
  have x0 := k2.cell x0
  have x1 := k2.cell x1
  have hB := rFalse_any a ax cap cx out L xs hLn hxl w2 (hrd.keep k02) (hxd.keep k02)
  clear hA hO2
  go_wp2_with fail
  refine hB.mono ?_
  rintro e w3 ⟨v3, l3, rfl, hO3, p3, q3, k3⟩
  obtain ⟨a3, c3, rfl, -, hr3⟩ := hO3.shape
  obtain ⟨rfl, hfew⟩ := false_eq p2 q2 p3 q3
  have k03 := k02.trans k3
  have x0 := k3.cell x0
  have x1 := k3.cell x1
  have hC := Reach_any a ax cap cx out L xs hLn hxl w3 (hrd.keep k03) (hxd.keep k03)
  clear hB hO3 p2 q2 p3 q3
  go_wp2_with fail
  refine hC.mono ?_
  rintro e w4 ⟨v4, rfl, p4, q4, k4⟩
  have k04 := k03.trans k4
  have x0 := k4.cell x0
  have x1 := k4.cell x1
  have hD := rReach_any a ax cap cx out L xs hLn hxl w4 (hrd.keep k04) (hxd.keep k04)
  replace p4 : Hid _ := p4
  replace q4 : Hid _ := q4
  clear hC
  go_wp2_with fail
  refine hD.mono ?_
  rintro e w5 ⟨v5, rfl, p5, q5, k5⟩
  obtain ⟨lR, aR, cR, aS, cS, rfl, rfl, hRd1, hRd2, hRl⟩ := reach_eq k5 p4.out q4.out p5 q5
  have k05 := k04.trans k5
  have x0 := k5.cell x0
  have x1 := k5.cell x1
  have hE := Exit_any a ax cap cx out L xs hLn hxl w5 (Bi.Tab.keep hTab k05) (hrd.keep k05) (hxd.keep k05)
  clear hD p4 q4 p5 q5
  go_wp2_with fail
  refine hE.mono ?_
  rintro e w6 ⟨k, v, rfl, p6, q6, k6⟩
  have k06 := k05.trans k6
  have x0 := k6.cell x0
  have x1 := k6.cell x1
  have hF := rExit_any a ax cap cx out L xs hLn hxl w6 (hrd.keep k06) (hxd.keep k06)
  replace p6 : Hid _ := p6
  replace q6 : Hid _ := q6
  clear hE
  go_wp2_with fail
  refine hF.mono ?_
  rintro e w7 ⟨m, u, rfl, p7, q7, k7⟩
  obtain ⟨rfl, rfl⟩ := exit_eq p6.out q6.out p7 q7
  have k07 := k06.trans k7
  have hV := lives_any w7 (Bi.Tab.keep hTab k07)
  clear hF p6 q6 p7 q7 x0 x1
  go_wp2_with fail
  refine hV.mono ?_
  rintro e w8 ⟨rfl, k8⟩
  have k38 := ((((k4.trans k5).trans k6).trans k7).trans k8)
  have hS := SameM_eq a2 a3 c2 c3 l2 w8 (by omega) (hr2.keep (k3.trans k38)) (hr3.keep k38)
  clear hV
  go_wp2_with fail
  refine hS.mono ?_
  rintro e w9 ⟨rfl, k9⟩
  have k59 := ((k6.trans k7).trans k8).trans k9
  have hT := Bi.Same_any aR aS cR cS lR w9 (by omega) (rd_keep hRd1 k59) (rd_keep hRd2 k59)
  have d1 : (lvG L xs.length == lvG L xs.length) = true := by simp
  replace hRd1 : Hid _ := hRd1
  replace hRd2 : Hid _ := hRd2
  clear hS
  go_wp2_with fail
  refine hT.mono ?_
  rintro e wA ⟨rfl, kA⟩
  have kA : Keep _ _ := kA
  have d2 : ((k : Int) == (k : Int)) = true := by simp
  have d3 : (v == v) = true := by simp
  clear hT
  go_wp2_with fail
  go_ret
  exact ⟨rfl, ((k07.trans k8).trans k9).trans kA⟩
end Go.Proofs.YtcdcheecaphmgaaDoor
