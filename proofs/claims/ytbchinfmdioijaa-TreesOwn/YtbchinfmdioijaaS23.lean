import Derived.Test.YtbchinfmdioijaaS13
import Derived.Test.YtbchinfmdioijaaS6
import Derived.Lib.BufferWrite
import Derived.Lib.UnsafeStr
import Derived.Deep.RegionHeld3
set_option linter.unusedVariables false
set_option linter.unusedSimpArgs false
namespace Go.Proofs.Ytbchinfmdioijaa
open Go.RowKit Go.Shelf
attribute [local go_sem] run_store_float
set_option maxRecDepth 100000 in
set_option maxHeartbeats 2000000 in
theorem copyTree_any (a : Option Addr) (c : Nat) (out : Int) (L : List Nd) (w : World) (hLn : L.length ≤ 1759218604441) (ha : RdN w a L) :
    Calls Try.prog 67 #[.agg #[.int .i64 out, .slice a L.length c]] w fun e w' => ∃ a' c', e = .returned (.agg #[.int .i64 out, .slice a' L.length c']) ∧ L.length ≤ c' ∧ CT w' (fun b => w.heap.size ≤ b ∧ b < w'.heap.size) a' c' L ∧ Keep w w' := by
  obtain ⟨w1, hw1, k1, s1, r0, r1⟩ := boxes2n w #[Value.int .i64 out, Value.slice a L.length c] #[Value.int .i64 0, Value.slice none 0 0] 24 24
  have hz0 : w.heap.size < w1.heap.size := (Array.getElem?_eq_some_iff.1 r0).1
  have hz1 : w.heap.size + 1 < w1.heap.size := (Array.getElem?_eq_some_iff.1 r1).1
  have ha1 := ha.keep k1
  replace hw1 : Hid _ := hw1
  replace r0 : Hid _ := r0
  replace r1 : Hid _ := r1
  go_enter Try.func67, Try.ntmps67
  go_wp2_with fail
  rw [hw1.out]
  go_loopw [3, 9] (fun v iv wr => ∃ (k : Nat) (K : List (Nd × Option Addr × Nat)), k ≤ L.length ∧ iv = .int .i64 k ∧ NIt L w1 k v wr K) (fun _ iv _ => L.length - (intOf iv).toNat)
  case atStart => exact ⟨0, [], by omega, rfl, rfl, fun j hj => by omega, OwnN.nil _ _, fun j hj => by omega, fun j hj => by omega, Keep.refl w1⟩
  case round =>
    obtain ⟨k, K, hk, rfl, hI⟩ := hrel
    by_cases hkl : k < L.length
    · have hkc : (k : Int) < (L.length : Int) := by omega
      obtain ⟨b, o, ca, cp, rfl, hnd⟩ := (ha1.keep hI.kp) k hkl
      obtain ⟨N, hN⟩ : ∃ N, L.getD k nd0 = N := ⟨_, rfl⟩
      have HN : Hid (L.getD k nd0 = N) := hN
      rw [hN] at hnd
      clear hN
      have c0 := hnd.c0
      have c1 := hnd.c1
      have c2 := hnd.c2
      have c3 := hnd.c3
      have c4 := hnd.c4
      have c5 := hnd.c5
      have c6 := hnd.c6
      have c7 := hnd.c7
      have kb : Keep wr (wr.alloc (Obj.cells #[Value.int IntKind.u8 N.kd, Value.int IntKind.i64 N.vl, Value.int IntKind.i64 N.ft, Value.float FloatKind.f64 N.th, Value.slice ca N.cs.length cp, Value.int IntKind.u8 N.ms, Value.int IntKind.i64 N.lf, Value.int IntKind.i64 N.rt] 40)) := (Keep.refl wr).alloc _
      have hCN := copyNode_any N ca cp _ (hnd.rd.keep kb) hnd.sz hnd.cp
      unfold Nd.v at hCN
      have hKl : K.length + 1 ≤ 1759218604441 := by have := hI.len; omega
      have hB4 := hI.kp.le
      clear hnd
      go_wp2_with (first | (go_at_call 68; refine hCN.mono ?_; rintro e w2 ⟨va, cc, rfl, hO, hcc, k2⟩) | (at_builtin; refine wpList_appN w1.heap.size _ rfl _ _ rfl K (N, va, cc) u3 ?_ (hI.own.keep ((kb.trans k2).alloc _)) (Nat.le_trans hB4 ((kb.trans k2).alloc _).le) ⟨w2.heap.size, 0, none⟩ 1 ?_ (newsN w2 _ rfl N va cc) hKl ?_; rotate_left 2; intro v5 w5 hO5 g5 hv5))
      · rw [World.size_alloc] at hO
        exact ⟨⟨k + 1, K ++ [(N, va, cc)], by omega, by go_num, hI.step HN.out ((kb.trans k2).alloc _) (hO.keep ((Keep.refl _).alloc _)) hO5 g5 hv5⟩, by simp [intOf]; omega⟩
      all_goals rfl
    · have hkc : ¬ (k : Int) < (L.length : Int) := by omega
      obtain rfl : k = L.length := by omega
      obtain ⟨an, cn, rfl, hcn, hC6⟩ := hI.ct
      have m0 := (hI.kp.block _ hz0).trans r0.out
      have m1 := (hI.kp.block _ hz1).trans r1.out
      have x0 := cell_of_row wr _ 0 _ 24 (0, 0) m0
      have e0 := cell_of_row wr _ 0 _ 24 (0, 0) m1
      have e1 := cell_of_row wr _ 1 _ 24 (0, 0) m1
      have f0 := frozen_of_row wr _ 0 _ 24 m1
      have f1 := frozen_of_row wr _ 1 _ 24 m1
      simp at x0 e0 e1
      replace m0 : Hid _ := m0
      replace m1 : Hid _ := m1
      go_wp2_with fail
      have F2 : ((wr.setCell ⟨w.heap.size + 1, 0, none⟩ (.int .i64 out)).setCell ⟨w.heap.size + 1, 1, none⟩ (.slice an L.length cn)).heap[w.heap.size + 1]? = some (.cells #[.int .i64 out, .slice an L.length cn] 24 (0, 0)) := by
        have a1 := heap_setCell_same _ (w.heap.size + 1) 0 _ 24 (.int .i64 out) m1.out
        have a2 := heap_setCell_same _ (w.heap.size + 1) 1 _ 24 (.slice an L.length cn) a1
        simpa using a2
      try simp only [Exit.inBlock, Exit.then]
      refine bodyPost_ret (results_cell_row rfl _ _ (w.heap.size + 1) 24 _ (0, 0) _ rfl F2 Try.underlying24 rfl (by kernel_rfl)) rfl ?_
      refine ⟨an, cn, rfl, hcn, hC6.same (fun b hb => ?_) (fun b hb => ⟨by have := hb.1; omega, by simpa using hb.2⟩), ?_⟩
      · have h1 := hb.1
        rw [neq_set _ _ _ _ b (by omega), neq_set _ _ _ _ b (by omega)]
      · exact ((k1.trans hI.kp).setCell (p := ⟨w.heap.size + 1, 0, none⟩) (by show w.heap.size ≤ w.heap.size + 1; omega) _).setCell (p := ⟨w.heap.size + 1, 1, none⟩) (by show w.heap.size ≤ w.heap.size + 1; omega) _
end Go.Proofs.Ytbchinfmdioijaa
set_option linter.unusedVariables false
set_option linter.unusedSimpArgs false
namespace Go.Proofs.Ytbchinfmdioijaa
open Go.RowKit Go.Shelf
set_option maxRecDepth 100000 in
theorem equalZ_any (a b : Option Addr) (ca cb : Nat) (la lb : List Int) (w : World) (hla : la.length ≤ 17592186044416) (ha : RdI w a la) (hb : RdI w b lb) :
    Calls Try.prog 65 #[.slice a la.length ca, .slice b lb.length cb] w fun e w' => e = .returned (.bool (decide (la = lb))) ∧ Keep w w' := by
  by_cases hl : la.length = lb.length
  · go_enter Try.func65, Try.ntmps65
    rw [← hl]
    replace hl : Hid _ := hl
    go_wp2_with fail
    go_loopw [13] (fun iv wr => ∃ k : Nat, k ≤ la.length ∧ iv = .int .i64 k ∧ Keep w wr ∧ Hid (∀ j, j < k → la.getD j 0 = lb.getD j 0)) (fun iv _ => la.length - (intOf iv).toNat)
    case atStart => exact ⟨0, by omega, rfl, Keep.refl w, by intro j hj; omega⟩
    case round =>
      obtain ⟨k, hk, rfl, kw, hinv⟩ := hrel
      by_cases hkl : k < la.length
      · have hkc : (k : Int) < (la.length : Int) := by omega
        have hkl2 : k < lb.length := by have := hl.out; omega
        obtain ⟨b1, o1, rfl, c1⟩ := (ha.keep kw) k hkl
        obtain ⟨b2, o2, rfl, c2⟩ := (hb.keep kw) k hkl2
        obtain ⟨x, hx⟩ : ∃ x, la.getD k 0 = x := ⟨_, rfl⟩
        obtain ⟨y, hy⟩ : ∃ y, lb.getD k 0 = y := ⟨_, rfl⟩
        rw [hx] at c1
        rw [hy] at c2
        have HX : Hid (la.getD k 0 = x ∧ lb.getD k 0 = y) := ⟨hx, hy⟩
        clear hx hy
        by_cases hxy : x = y
        · subst hxy
          have HN : Hid (∀ j, j < k + 1 → la.getD j 0 = lb.getD j 0) := by
            intro j hj
            by_cases e : j = k
            · subst e; rw [HX.out.1, HX.out.2]
            · exact hinv.out j (by omega)
          go_wp2_with fail
          go_region_with fail
          all_goals
            go_simp
            go_wp2_with fail
            go_roundw
            case rel => exact ⟨k + 1, by omega, by go_num, kw.drew, HN⟩
            case measure => simp [intOf]; omega
        · have hB : (x == y) = false := by simpa using hxy
          have hB2 : (x != y) = true := by simpa using hxy
          have HF : Hid (decide (la = lb) = false) := by
            show _ = _
            rw [decide_eq_false_iff_not]
            intro e
            have := HX.out
            rw [e] at this
            exact hxy (this.1.symm.trans this.2)
          clear hxy
          go_wp2_with fail
          go_region_with fail
          all_goals
            go_simp
            go_wp2_with fail
            go_ret
            exact ⟨ret_bool HF.out.symm, kw.drew⟩
      · have hkc : ¬ (k : Int) < (la.length : Int) := by omega
        have HT : Hid (decide (la = lb) = true) := decide_eq_true (int_ext hl.out (fun j hj => hinv.out j (by omega)))
        go_wp2_with fail
        go_ret
        exact ⟨ret_bool HT.out.symm, kw⟩
  · have hB : ((la.length : Int) == (lb.length : Int)) = false := by rw [beq_eq_false_iff_ne]; omega
    have hB2 : ((la.length : Int) != (lb.length : Int)) = true := by simp; omega
    have HF : Hid (decide (la = lb) = false) := by
      show _ = _
      rw [decide_eq_false_iff_not]
      intro e; rw [e] at hl; exact hl rfl
    go_enter Try.func65, Try.ntmps65
    go_wp2_with fail
    go_ret
    exact ⟨ret_bool HF.out.symm, Keep.refl _⟩
set_option maxRecDepth 100000 in
theorem equalS_any (a b : Option Addr) (ca cb : Nat) (la lb : List ByteArray) (w : World) (hla : la.length ≤ 17592186044416) (ha : RdS w a la) (hb : RdS w b lb) :
    Calls Try.prog 64 #[.slice a la.length ca, .slice b lb.length cb] w fun e w' => e = .returned (.bool (@decide (la = lb) (Classical.propDecidable _))) ∧ Keep w w' := by
  by_cases hl : la.length = lb.length
  · go_enter Try.func64, Try.ntmps64
    rw [← hl]
    replace hl : Hid _ := hl
    go_wp2_with fail
    go_loopw [13] (fun iv wr => ∃ k : Nat, k ≤ la.length ∧ iv = .int .i64 k ∧ Keep w wr ∧ Hid (∀ j, j < k → la.getD j ByteArray.empty = lb.getD j ByteArray.empty)) (fun iv _ => la.length - (intOf iv).toNat)
    case atStart => exact ⟨0, by omega, rfl, Keep.refl w, by intro j hj; omega⟩
    case round =>
      obtain ⟨k, hk, rfl, kw, hinv⟩ := hrel
      by_cases hkl : k < la.length
      · have hkc : (k : Int) < (la.length : Int) := by omega
        have hkl2 : k < lb.length := by have := hl.out; omega
        obtain ⟨b1, o1, rfl, c1⟩ := (ha.keep kw) k hkl
        obtain ⟨b2, o2, rfl, c2⟩ := (hb.keep kw) k hkl2
        obtain ⟨x, hx⟩ : ∃ x, la.getD k ByteArray.empty = x := ⟨_, rfl⟩
        obtain ⟨y, hy⟩ : ∃ y, lb.getD k ByteArray.empty = y := ⟨_, rfl⟩
        rw [hx] at c1
        rw [hy] at c2
        have HX : Hid (la.getD k ByteArray.empty = x ∧ lb.getD k ByteArray.empty = y) := ⟨hx, hy⟩
        clear hx hy
        by_cases hxy : x = y
        · subst hxy
          have HN : Hid (∀ j, j < k + 1 → la.getD j ByteArray.empty = lb.getD j ByteArray.empty) := by
            intro j hj
            by_cases e : j = k
            · subst e; rw [HX.out.1, HX.out.2]
            · exact hinv.out j (by omega)
          go_wp2_with fail
          go_region_with fail
          all_goals
            go_simp
            go_wp2_with fail
            go_roundw
            case rel => exact ⟨k + 1, by omega, by go_num, kw.drew, HN⟩
            case measure => simp [intOf]; omega
        · have hB : (x.toList == y.toList) = false := ba_ne hxy
          have HF : Hid (@decide (la = lb) (Classical.propDecidable _) = false) := by
            show _ = _
            rw [decide_eq_false_iff_not]
            intro e
            have := HX.out
            rw [e] at this
            exact hxy (this.1.symm.trans this.2)
          clear hxy
          go_wp2_with fail
          go_region_with fail
          all_goals
            go_simp
            go_wp2_with fail
            go_ret
            exact ⟨ret_bool HF.out.symm, kw.drew⟩
      · have hkc : ¬ (k : Int) < (la.length : Int) := by omega
        have HT : Hid (@decide (la = lb) (Classical.propDecidable _) = true) := @decide_eq_true _ (Classical.propDecidable _) (str_ext hl.out (fun j hj => hinv.out j (by omega)))
        go_wp2_with fail
        go_ret
        exact ⟨ret_bool HT.out.symm, kw⟩
  · have hB : ((la.length : Int) == (lb.length : Int)) = false := by rw [beq_eq_false_iff_ne]; omega
    have hB2 : ((la.length : Int) != (lb.length : Int)) = true := by simp; omega
    have HF : Hid (@decide (la = lb) (Classical.propDecidable _) = false) := by
      show _ = _
      rw [decide_eq_false_iff_not]
      intro e; rw [e] at hl; exact hl rfl
    go_enter Try.func64, Try.ntmps64
    go_wp2_with fail
    go_ret
    exact ⟨ret_bool HF.out.symm, Keep.refl _⟩
set_option maxRecDepth 100000 in
set_option maxHeartbeats 2000000 in
theorem equalT_any (a b : Option Addr) (ca cb : Nat) (ts us : List (Int × List Nd)) (w : World) (hLn : ts.length ≤ 4398046511104) (ra : RdT w a ts) (rb : RdT w b us) :
    Calls Try.prog 66 #[.slice a ts.length ca, .slice b us.length cb, .func (.func 40) #[] #[]] w fun e w' => e = .returned (.bool (@decide (ts = us) (Classical.propDecidable _))) ∧ Keep w w' := by
  by_cases hl : ts.length = us.length
  · go_enter Try.func66, Try.ntmps66
    rw [← hl]
    replace hl : Hid _ := hl
    go_wp2_with fail
    go_loopw [17] (fun iv wr => ∃ k : Nat, k ≤ ts.length ∧ iv = .int .i64 k ∧ Keep w wr ∧ Hid (∀ j, j < k → ts.getD j (0, []) = us.getD j (0, []))) (fun iv _ => ts.length - (intOf iv).toNat)
    case atStart => exact ⟨0, by omega, rfl, Keep.refl w, by intro j hj; omega⟩
    case round =>
      obtain ⟨k, hk, rfl, kw, hinv⟩ := hrel
      by_cases hkl : k < ts.length
      · have hkc : (k : Int) < (ts.length : Int) := by omega
        have hkl2 : k < us.length := by have := hl.out; omega
        obtain ⟨b1, o1, na1, nc1, rfl, c1, c1', n1, l1c, l1l, l1f⟩ := (ra.keep kw) k hkl
        obtain ⟨b2, o2, na2, nc2, rfl, c2, c2', n2, l2c, l2l, l2f⟩ := (rb.keep kw) k hkl2
        obtain ⟨x, hx⟩ : ∃ x, ts.getD k (0, []) = x := ⟨_, rfl⟩
        obtain ⟨y, hy⟩ : ∃ y, us.getD k (0, []) = y := ⟨_, rfl⟩
        rw [hx] at c1 c1' n1 l1c l1l l1f
        rw [hy] at c2 c2' n2 l2c l2l l2f
        have HX : Hid (ts.getD k (0, []) = x ∧ us.getD k (0, []) = y) := ⟨hx, hy⟩
        clear hx hy
        obtain ⟨ox, Lx⟩ := x
        obtain ⟨oy, Ly⟩ := y
        simp only at c1 c1' n1 l1c l1l l1f c2 c2' n2 l2c l2l l2f
        have kx : Keep wr (wr.alloc (Obj.cells #[Value.int IntKind.i64 ox, Value.slice na1 Lx.length nc1] 24)) := (Keep.refl wr).alloc _
        have q0 := kx.cell c2
        have q1 := kx.cell c2'
        obtain ⟨w2, hw2, k2, s2, x0, x1⟩ := boxes2n wr #[Value.int IntKind.i64 ox, Value.slice na1 Lx.length nc1] #[Value.int IntKind.i64 oy, Value.slice na2 Ly.length nc2] 24 24
        have y0 := cell_of_row _ _ 0 _ 24 (0, 0) x0
        have y1 := cell_of_row _ _ 1 _ 24 (0, 0) x0
        have z0 := cell_of_row _ _ 0 _ 24 (0, 0) x1
        have z1 := cell_of_row _ _ 1 _ 24 (0, 0) x1
        simp only [List.getElem?_toArray, List.getElem?_cons_zero, List.getElem?_cons_succ] at y0 y1 z0 z1
        rw [← hw2] at y0 y1 z0 z1
        have hA := Alike_any na1 na2 nc1 nc2 ox oy Lx Ly w2 l1l (n1.keep k2) (n2.keep k2)
        replace hw2 : Hid _ := hw2
        clear x0 x1
        by_cases hxy : ox = oy ∧ Lx = Ly
        · rw [@decide_eq_true _ (Classical.propDecidable _) hxy] at hA
          have HN : Hid (∀ j, j < k + 1 → ts.getD j (0, []) = us.getD j (0, [])) := by
            intro j hj
            by_cases e : j = k
            · subst e; rw [HX.out.1, HX.out.2, hxy.1, hxy.2]
            · exact hinv.out j (by omega)
          clear hxy
          go_wp2_with fail
          rw [hw2.out]
          refine hA.mono ?_
          rintro e w3 ⟨rfl, k3⟩
          go_wp2_with fail
          exact ⟨⟨k + 1, by omega, by go_num, kw.trans (k2.trans k3), HN⟩, by simp [intOf]; omega⟩
        · rw [@decide_eq_false _ (Classical.propDecidable _) hxy] at hA
          have HF : Hid (@decide (ts = us) (Classical.propDecidable _) = false) := by
            show _ = _
            rw [decide_eq_false_iff_not]
            intro e
            have hh := HX.out
            rw [e] at hh
            exact hxy (by simpa using hh.1.symm.trans hh.2)
          clear hxy
          go_wp2_with fail
          rw [hw2.out]
          refine hA.mono ?_
          rintro e w3 ⟨rfl, k3⟩
          go_wp2_with fail
          go_ret
          exact ⟨ret_bool HF.out.symm, kw.trans (k2.trans k3)⟩
      · have hkc : ¬ (k : Int) < (ts.length : Int) := by omega
        have HT : Hid (@decide (ts = us) (Classical.propDecidable _) = true) := @decide_eq_true _ (Classical.propDecidable _) (tr_ext hl.out (fun j hj => hinv.out j (by omega)))
        go_wp2_with fail
        go_ret
        exact ⟨ret_bool HT.out.symm, kw⟩
  · have hB : ((ts.length : Int) == (us.length : Int)) = false := by rw [beq_eq_false_iff_ne]; omega
    have hB2 : ((ts.length : Int) != (us.length : Int)) = true := by simp; omega
    have HF : Hid (@decide (ts = us) (Classical.propDecidable _) = false) := by
      show _ = _
      rw [decide_eq_false_iff_not]
      intro e; rw [e] at hl; exact hl rfl
    clear hl
    go_enter Try.func66, Try.ntmps66
    go_wp2_with fail
    go_ret
    exact ⟨ret_bool HF.out.symm, Keep.refl _⟩
end Go.Proofs.Ytbchinfmdioijaa
set_option linter.unusedVariables false
set_option linter.unusedSimpArgs false
namespace Go.Proofs.Ytbchinfmdioijaa
open Go.RowKit Go.Shelf
theorem i5 : (Try.prog.info? 5).map (fun i => (i.zero, i.size, i.bytes)) = some (some (.int .u8 0), 1, 1) := by kernel_rfl
set_option maxRecDepth 100000 in
set_option maxHeartbeats 2000000 in
theorem clone87_any (s : ByteArray) (w : World) (hl : s.size ≤ 281474976710656) : Calls Try.prog 87 #[.string s] w fun e w' => e = .returned (.string s) ∧ Keep w w' := by
  by_cases h0 : s.size = 0
  · have h1 : ((s.size : Int) == 0) = true := by simp [h0]
    have hs : s = ⟨#[]⟩ := ByteArray.ext (Array.eq_empty_of_size_eq_zero h0)
    subst hs
    go_enter Try.func87, Try.ntmps87
    go_wp2_with fail
    go_ret
    exact ⟨rfl, Keep.refl _⟩
  · obtain ⟨i0, hi, hz0, hz1, hz2⟩ := info_parts i5
    have hne : s.data.toList ≠ [] := fun e => h0 (by rw [Lib.size_eq, e]; rfl)
    obtain ⟨M, hM⟩ : ∃ M : Array Value, madeCells (Value.int .u8 0).cells (s.size * 1) = M := ⟨_, rfl⟩
    have hMs : M.size = s.size := by rw [← hM]; simp [madeCells]
    have r1 := fun (wx : World) => run_make (P := Try.prog) wx 113 5 i0 _ Try.underlying113 hi hz0 .i64 .i64 (s.size : Nat) (s.size : Nat) (by omega) (by omega) (by rw [hz2]; omega) (by omega)
    simp only [hz1, Int.toNat_natCast, hM] at r1
    have g1 : (w.alloc (.cells M 5)).heap[w.heap.size]? = some (.cells M 5 (0, 0)) := heap_alloc_new w _
    have r2 := fun (ty : Nat) => Lib.run_copy_row_string (P := Try.prog) (w.alloc (.cells M 5)) 113 9 ty 5 w.heap.size 0 s.size s.size s M 5 Try.underlying113 (by rw [hi]; simp [hz1]) g1 (Nat.le_refl _) (by omega)
    obtain ⟨Y, hY⟩ : ∃ Y : Array Value, (M.toList.take 0 ++ Lib.byteCells s.data.toList ++ M.toList.drop (0 + s.size)).toArray = Y := ⟨_, rfl⟩
    rw [hY] at r2
    have hYl : Y.toList = Lib.byteCells s.data.toList := by
      have e : M.toList.drop (0 + s.size) = [] := List.drop_eq_nil_of_le (by rw [Array.length_toList]; omega)
      rw [← hY, e]
      simp
    have hYs : Y.size = s.size := by rw [← Array.length_toList, hYl, Lib.byteCells_length, ← Lib.size_eq]
    have g2 : ((w.alloc (.cells M 5)).setRow w.heap.size Y).heap[w.heap.size]? = some (.cells Y 5 (0, 0)) := setRow_heap _ _ M _ 5 (0, 0) g1
    have r3 := fun (ty : Nat) => Lib.run_unsafeString_row (P := Try.prog) ((w.alloc (.cells M 5)).setRow w.heap.size Y) 114 3 ty 5 Try.underlying114 (by simp [Program.cellsOf, hi, hz1]) w.heap.size Y.size (by unfold World.shape?; rw [g2]) s.data.toList hne (by rw [← Lib.size_eq]; omega) (by rw [← Lib.size_eq]; omega)
      (fun j x hx => Lib.cells_of_row g2 Y.size j _ (by rw [List.take_of_length_le (by simp), hYl]; simp [Lib.byteCells, hx]))
    rw [← Lib.size_eq] at r3
    have kf : Keep w (((w.alloc (.cells M 5)).setRow w.heap.size Y).freeze ⟨w.heap.size, 0, none⟩ s.size) := by
      have k1 : Below w.heap.size w (w.alloc (.cells M 5)) := (Below.refl _ w).alloc (Nat.le_refl _) _
      have k2 : Below w.heap.size (w.alloc (.cells M 5)) ((w.alloc (.cells M 5)).setRow w.heap.size Y) := ⟨rfl, rfl, rfl, by simp, fun k hk => setRow_other _ _ _ _ (by omega)⟩
      exact Lib.below_freeze (k1.trans k2) (p := ⟨w.heap.size, 0, none⟩) (Nat.le_refl _) _
    have h1 : ((s.size : Int) == 0) = false := by rw [beq_eq_false_iff_ne]; omega
    have h2 : (s.size == 0) = false := by simpa using h0
    clear hY hM
    go_enter Try.func87, Try.ntmps87
    go_wp2_with fail
    go_ret
    exact ⟨rfl, kf⟩
set_option maxRecDepth 100000 in
theorem Clone_any (s : ByteArray) (w : World) (hl : s.size ≤ 281474976710656) : Calls Try.prog 82 #[.string s] w fun e w' => e = .returned (.string s) ∧ Keep w w' := by
  have h := clone87_any s w hl
  go_enter Try.func82, Try.ntmps82
  go_wp2_with fail
  refine h.mono ?_
  rintro e w1 ⟨rfl, k1⟩
  go_wp2_with fail
  go_ret
  exact ⟨rfl, k1⟩
end Go.Proofs.Ytbchinfmdioijaa
set_option linter.unusedVariables false
set_option linter.unusedSimpArgs false
namespace Go.Proofs.Ytbchinfmdioijaa
open Go.RowKit Go.Shelf
/-- append(l, text). -/
theorem wpList_appS (B : Nat) (w : World) {ops : Array Oper} {rest : List Oper} {o : Oper} {a : Act} {Q : Exit → Act → World → Prop} (hgd : o.guard = none) (s x : Operand)
    (hop : o.op = .call { callee := .builtin .append, args := #[s, x], argTypes := #[48, 48] }) (l : List ByteArray) (y : ByteArray) (v : Value) (hs : a.eval s = v) (hown : OwnS B w v l) (hB : B ≤ w.heap.size) (ad : Addr) (hx : a.eval x = .slice (some ad) 1 1)
    (hnews : w.cell? ad = some (.string y)) (hlen : l.length + 1 ≤ 8796093022208)
    (hK : ∀ v' w', OwnS B w' v' (l ++ [y]) → w.grownBy w' v.ownBlock → wpList Try.prog ops Q rest (a.put o.dst v') w') :
    wpList Try.prog ops Q (o :: rest) a w := by
  obtain ⟨i0, hi, hz0, hz1, hz2⟩ := info_parts i9
  refine wpList_append_own _ hgd s x 48 hop B 9 i0 _ 1 16 Try.underlying48 hi hz0 hz1 hz2 rfl (by decide) _ _ _ hs hown ad 1 1 (US [y]) hx (by simp [US]) ?_ ?_ ?_ ?_ hB ?_
  · intro j u hj
    match j, hj with
    | 0, hj =>
      simp [US] at hj
      subst hj
      simpa [Addr.add] using hnews
    | j + 1, hj => simp [US] at hj
  · intro u hu; obtain ⟨_, _, rfl⟩ := List.mem_map.1 hu; rfl
  · simp only [maxLen]; omega
  · omega
  · intro v' w1 h1 h2 _
    refine hK v' w1 ?_ h2
    unfold OwnS
    rw [List.length_append, US, List.map_append]
    exact h1
theorem store5 (w : World) (g ty : Nat) (x0 x1 x2 x3 x4 v0 v1 v2 v3 v4 : Value) (h : w.heap[g]? = some (.cells #[x0, x1, x2, x3, x4] ty (0, 0))) :
    (((((w.setCell ⟨g, 0, none⟩ v0).setCell ⟨g, 1, none⟩ v1).setCell ⟨g, 2, none⟩ v2).setCell ⟨g, 3, none⟩ v3).setCell ⟨g, 4, none⟩ v4).heap[g]? = some (.cells #[v0, v1, v2, v3, v4] ty (0, 0)) ∧
    ∀ b, b ≠ g → (((((w.setCell ⟨g, 0, none⟩ v0).setCell ⟨g, 1, none⟩ v1).setCell ⟨g, 2, none⟩ v2).setCell ⟨g, 3, none⟩ v3).setCell ⟨g, 4, none⟩ v4).heap[b]? = w.heap[b]? := by
  have a0 := heap_setCell_same w g 0 _ ty v0 h
  have a1 := heap_setCell_same _ g 1 _ ty v1 a0
  have a2 := heap_setCell_same _ g 2 _ ty v2 a1
  have a3 := heap_setCell_same _ g 3 _ ty v3 a2
  have a4 := heap_setCell_same _ g 4 _ ty v4 a3
  refine ⟨by simpa using a4, fun b hb => ?_⟩
  rw [neq_set _ _ _ _ b hb, neq_set _ _ _ _ b hb, neq_set _ _ _ _ b hb, neq_set _ _ _ _ b hb, neq_set _ _ _ _ b hb]
theorem OwnS.mono {B B' : Nat} {w : World} {v : Value} {l : List ByteArray} (h : OwnS B w v l) (hB : B' ≤ B) : OwnS B' w v l := by
  refine ⟨h.1, ?_⟩
  rcases h.2 with h2 | ⟨g, cap, cur, hv, hg, r⟩
  · exact .inl h2
  · exact .inr ⟨g, cap, cur, hv, Nat.le_trans hB hg, r⟩
set_option maxRecDepth 100000 in
set_option maxHeartbeats 2000000 in
theorem copyHead_any (nm : ByteArray) (fa : Option Addr) (fs : List ByteArray) (cf : Nat) (N : Int) (ba : Option Addr) (base : List Int) (cb : Nat) (ta : Option Addr) (tl ct : Nat) (w : World)
    (hnm : nm.size ≤ 281474976710656) (hf : RdS w fa fs) (hfz : ∀ j, j < fs.length → (fs.getD j ByteArray.empty).size ≤ 281474976710656) (hfl : fs.length ≤ 8796093022208) (hb : RdI w ba base) (hbc : base.length ≤ cb) (hbl : base.length ≤ 17592186044416) :
    Calls Try.prog 63 #[ens nm fa fs.length cf N ba base.length cb ta tl ct] w fun e w' => ∃ fa' cf' ba' cb', e = .returned (ens nm fa' fs.length cf' N ba' base.length cb' none 0 0) ∧ OwnS w.heap.size w' (.slice fa' fs.length cf') fs ∧ OwnZ 2 w.heap.size w' (.slice ba' base.length cb') base ∧ Keep w w' := by
  unfold ens
  obtain ⟨w1, hw1, k1, s1, r0, r1⟩ := boxes2n w #[Value.string nm, Value.slice fa fs.length cf, Value.int IntKind.i64 N, Value.slice ba base.length cb, Value.slice ta tl ct] #[Value.string { data := #[] }, Value.slice none 0 0, Value.int IntKind.i64 0, Value.slice none 0 0, Value.slice none 0 0] 52 52
  have hz0 : w.heap.size < w1.heap.size := (Array.getElem?_eq_some_iff.1 r0).1
  have hz1 : w.heap.size + 1 < w1.heap.size := (Array.getElem?_eq_some_iff.1 r1).1
  have hf1 := hf.keep k1
  have hb1 := hb.keep k1
  replace hw1 : Hid _ := hw1
  replace r0 : Hid _ := r0
  replace r1 : Hid _ := r1
  go_enter Try.func63, Try.ntmps63
  go_wp2_with fail
  rw [hw1.out]
  go_loopw [3, 9] (fun v iv wr => ∃ k : Nat, k ≤ fs.length ∧ iv = .int .i64 k ∧ OwnS w1.heap.size wr v (fs.take k) ∧ Keep w1 wr) (fun _ iv _ => fs.length - (intOf iv).toNat)
  case atStart => exact ⟨0, by omega, rfl, by simpa using OwnS.nil _ _, Keep.refl w1⟩
  case round =>
    obtain ⟨k, hk, rfl, hO, kw⟩ := hrel
    by_cases hkl : k < fs.length
    · have hkc : (k : Int) < (fs.length : Int) := by omega
      obtain ⟨b, o, rfl, c0⟩ := (hf1.keep kw) k hkl
      have hsz := hfz k hkl
      obtain ⟨q, hq⟩ : ∃ q, fs.getD k ByteArray.empty = q := ⟨_, rfl⟩
      rw [hq] at c0 hsz
      have hC := fun (wx : World) => Clone_any q wx hsz
      have HT : Hid (fs.take k ++ [q] = fs.take (k + 1)) := by
        show _ = _
        have e : q = fs[k] := by rw [← hq]; simp [List.getD, hkl]
        rw [e]
        exact List.take_append_getElem hkl
      have hKl : (fs.take k).length + 1 ≤ 8796093022208 := by simp; omega
      have hB4 := kw.le
      clear hq hsz
      go_wp2_with (first | (go_at_call 82; refine (hC _).mono ?_; rintro e w2 ⟨rfl, k2⟩) | (at_builtin; refine wpList_appS w1.heap.size _ rfl _ _ rfl (fs.take k) q u3 ?_ (hO.keep (k2.alloc _)) (Nat.le_trans hB4 (k2.alloc _).le) ⟨w2.heap.size, 0, none⟩ ?_ (by rw [cell_of_row _ _ 0 _ 9 (0, 0) (heap_alloc_new w2 _)]; rfl) hKl ?_; rotate_left 2; intro v5 w5 hO5 g5))
      · rw [HT.out] at hO5
        have k5 : Keep w1 w5 := Below.grown (kw.trans (k2.alloc _)) g5 (Nat.le_trans hB4 (k2.alloc _).le) (fun b hb => (hO.block hb).1)
        exact ⟨⟨k + 1, by omega, by go_num, hO5, k5⟩, by simp [intOf]; omega⟩
      all_goals rfl
    · have hkc : ¬ (k : Int) < (fs.length : Int) := by omega
      obtain rfl : k = fs.length := by omega
      rw [List.take_length] at hO
      obtain ⟨fa', cf', rfl, hcf, -⟩ := hO.shape
      have m0 := (kw.block _ hz0).trans r0.out
      have m1 := (kw.block _ hz1).trans r1.out
      have x0 := cell_of_row wr _ 0 _ 52 (0, 0) m0
      have x2 := cell_of_row wr _ 2 _ 52 (0, 0) m0
      have x3 := cell_of_row wr _ 3 _ 52 (0, 0) m0
      simp only [List.getElem?_toArray, List.getElem?_cons_zero, List.getElem?_cons_succ] at x0 x2 x3
      have hz0r : w.heap.size + 1 < wr.heap.size := (Array.getElem?_eq_some_iff.1 m1).1
      replace m0 : Hid _ := m0
      replace m1 : Hid _ := m1
      have hC := fun (wx : World) => Clone_any nm wx hnm
      have hL := fun (wx : World) (k : Keep wr wx) => copyZ_any ba cb base wx hbl hbc ((hb1.keep kw).keep k)
      go_wp2_with fail
      have xd0 : wr.drew.cell? ⟨w.heap.size, 0, none⟩ = some (Value.string nm) := x0
      have xd2 : wr.drew.cell? ⟨w.heap.size, 2, none⟩ = some (Value.int .i64 N) := x2
      have xd3 : wr.drew.cell? ⟨w.heap.size, 3, none⟩ = some (Value.slice ba base.length cb) := x3
      go_region_held3 (fun wx => wx.cell? ⟨w.heap.size, 0, none⟩ = some (Value.string nm) ∧ wx.cell? ⟨w.heap.size, 2, none⟩ = some (Value.int .i64 N) ∧ wx.cell? ⟨w.heap.size, 3, none⟩ = some (Value.slice ba base.length cb)) (first | with_reducible exact ⟨xd0, xd2, xd3⟩ | with_reducible exact ⟨p0, p2, p3⟩ | with_reducible exact ⟨q0, q2, q3⟩ | go_keep) (first
        | (go_at_call 82; refine (hC _).mono ?_; rintro e wA ⟨rfl, kA⟩; have kA0 : Keep wr wA := (Keep.refl wr).drew.trans kA; have p0 := kA0.cell x0; have p2 := kA0.cell x2; have p3 := kA0.cell x3)
        | (go_at_call 61; refine (hL _ kA0).mono ?_; rintro e wB ⟨vb, rfl, hOb, kB⟩; obtain ⟨ba', cb', rfl, hcb, -⟩ := hOb.shape; have kB0 := kA0.trans kB; have q0 := kB0.cell x0; have q2 := kB0.cell x2; have q3 := kB0.cell x3; have m6 := (kB0.block _ hz0r).trans m1.out; have y0 := cell_of_row _ _ 0 _ 52 (0, 0) m6; have y1 := cell_of_row _ _ 1 _ 52 (0, 0) m6; have y2 := cell_of_row _ _ 2 _ 52 (0, 0) m6; have y3 := cell_of_row _ _ 3 _ 52 (0, 0) m6; have y4 := cell_of_row _ _ 4 _ 52 (0, 0) m6; have f0 := frozen_of_row _ _ 0 _ 52 m6; have f1 := frozen_of_row _ _ 1 _ 52 m6; have f2 := frozen_of_row _ _ 2 _ 52 m6; have f3 := frozen_of_row _ _ 3 _ 52 m6; have f4 := frozen_of_row _ _ 4 _ 52 m6; simp only [List.getElem?_toArray, List.getElem?_cons_zero, List.getElem?_cons_succ] at y0 y1 y2 y3 y4; replace m6 : Hid _ := m6))
      all_goals
        go_simp
        go_wp2_with fail
        obtain ⟨F2, F1⟩ := store5 wB (w.heap.size + 1) 52 _ _ _ _ _ (.string nm) (.slice fa' fs.length cf') (.int .i64 N) (.slice ba' base.length cb') (.slice none 0 0) m6.out
        try simp only [Exit.inBlock, Exit.then]
        refine bodyPost_ret (results_cell_row rfl _ _ (w.heap.size + 1) 52 _ (0, 0) _ rfl F2 Try.underlying52 rfl (by kernel_rfl)) rfl ?_
        refine ⟨fa', cf', ba', cb', rfl, ?_, ?_, ?_⟩
        · have o2 := (hO.keep kB0).mono (B' := w.heap.size) (by omega)
          exact o2.same (fun b hb => F1 b (by have := (hO.block hb).1; omega))
        · have hle := kA0.le
          have hwr := kw.le
          have o2 := hOb.mono (B' := w.heap.size) (by omega)
          exact o2.same (fun b hb => F1 b (by have := (hOb.block hb).1; omega))
        · exact (((((k1.trans (kw.trans kB0)).setCell (p := ⟨w.heap.size + 1, 0, none⟩) (by show w.heap.size ≤ w.heap.size + 1; omega) _).setCell (p := ⟨w.heap.size + 1, 1, none⟩) (by show w.heap.size ≤ w.heap.size + 1; omega) _).setCell (p := ⟨w.heap.size + 1, 2, none⟩) (by show w.heap.size ≤ w.heap.size + 1; omega) _).setCell (p := ⟨w.heap.size + 1, 3, none⟩) (by show w.heap.size ≤ w.heap.size + 1; omega) _).setCell (p := ⟨w.heap.size + 1, 4, none⟩) (by show w.heap.size ≤ w.heap.size + 1; omega) _
end Go.Proofs.Ytbchinfmdioijaa
