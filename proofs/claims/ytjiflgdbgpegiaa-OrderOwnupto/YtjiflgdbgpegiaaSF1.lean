import Derived.Test.YtjiflgdbgpegiaaSF0
set_option linter.unusedVariables false
set_option linter.unusedSimpArgs false
namespace Go.Proofs.Ytjiflgdbgpegiaa
open Go.RowKit Go.Shelf
attribute [local go_sem] run_store_float
theorem Inf_any (w : World) : Calls Try.prog 52 #[.int .i64 1] w fun e w' => e = .returned (.float .f64 9218868437227405312) ∧ w' = w := by
  have hf := f64from 9218868437227405312
  rw [show ((9218868437227405312 : Nat) : Int) = 9218868437227405312 from rfl] at hf
  go_enter Try.func52, Try.ntmps52
  go_wp2
  go_ret
  exact ⟨rfl, rfl⟩
theorem blw_app (l r : List Nat) (y : Nat) : blw (l ++ r) y = blw l y + blw r y := by unfold blw; rw [List.filter_append, List.length_append]
theorem blw_inf (l : List Nat) : 2 ≤ blw (l ++ [4607182418800017408, 4611686018427387904]) 9218868437227405312 := by
  rw [blw_app]
  have : blw [4607182418800017408, 4611686018427387904] 9218868437227405312 = 2 := by decide +kernel
  omega
/-- Two numbers that are there: two at least. -/
theorem dst_two_in {l D : List Nat} (h : Dst (l ++ [4607182418800017408, 4611686018427387904]) D) : 2 ≤ D.length := by
  have h1 : 4607182418800017408 ∈ D := (h.mem _).2 ⟨4607182418800017408, by simp, by decide, by decide +kernel⟩
  have h2 : 4611686018427387904 ∈ D := (h.mem _).2 ⟨4611686018427387904, by simp, by decide, by decide +kernel⟩
  match D, h1, h2 with
  | [], h1, _ => cases h1
  | [x], h1, h2 => simp at h1 h2; omega
  | x :: y :: D, _, _ => simp
theorem Arr.oth {w w' : World} {g k : Nat} {l : List Nat} (h : Arr w g l) (o : Oth k w w') (hne : g ≠ k) : Arr w' g l := by
  obtain ⟨cur, h1, h2⟩ := h
  exact ⟨cur, by rw [o.block g hne]; exact h1, h2⟩
theorem Arr.grown {w w' : World} {g : Nat} {l : List Nat} {row : Option Nat} (h : Arr w g l) (k : w.grownBy w' row) (hne : some g ≠ row) : Arr w' g l := by
  obtain ⟨cur, h1, h2⟩ := h
  exact ⟨cur, by rw [k.block g (Array.getElem?_eq_some_iff.1 h1).1 hne]; exact h1, h2⟩
theorem arr_news {w : World} {g n : Nat} {l : List Nat} (h : Arr w g l) (hn : l.length = n) : ∀ j u, (UF l)[j]? = some u → w.cell? ((⟨g, 0, none⟩ : Addr).add j) = some u := by
  intro j u hj
  have hjl : j < l.length := by have := (List.getElem?_eq_some_iff.1 hj).1; simpa [UF_length] using this
  rw [UF_get l j hjl] at hj
  rw [Addr.add_lit, Nat.zero_add, h.cell hjl, hj]
theorem own_oth {w w' : World} {B E z n k : Nat} {v : Value} {xs : List Value} (h : w.ownsRow B E z v n xs) (o : Oth k w w') (hk : k < B) : w'.ownsRow B E z v n xs := by
  refine ⟨h.1, ?_⟩
  rcases h.2 with h2 | ⟨b, cap, cur, hv, hg, hh, r⟩
  · exact .inl h2
  · exact .inr ⟨b, cap, cur, hv, hg, by rw [o.block b (by omega)]; exact hh, r⟩
theorem own_set {w : World} {B n g cap : Nat} {xs : List Value} (h : w.ownsRow B 23 1 (.slice (some ⟨g, 0, none⟩) n cap) n xs) (j x : Nat) : (w.setCell ⟨g, j, none⟩ (.float .f64 x)).ownsRow B 23 1 (.slice (some ⟨g, 0, none⟩) n cap) n (xs.set j (.float .f64 x)) := by
  refine ⟨by rw [List.length_set]; exact h.1, ?_⟩
  rcases h.2 with ⟨h1, _⟩ | ⟨b, cap', cur, hv, hg, hh, r1, r2, r3, r4⟩
  · cases h1
  · injection hv with e1 e2 e3
    injection e1 with e1
    injection e1 with e1
    subst e1
    subst e3
    refine .inr ⟨g, cap, _, rfl, hg, heap_setCell_same w g j cur 23 _ hh, r1, r2, by simp [r3], ?_⟩
    rw [Array.toList_setIfInBounds, List.take_set, r4]
set_option maxRecDepth 100000 in
set_option maxHeartbeats 4000000 in
/-- OrderOwn. -/
theorem law_own (p : Option Addr) (c n : Nat) (l : List Nat) (w : World) (hF : F64 l) (hn : l.length = n) (hl : n ≤ 1048576) (hL : RdU w p l) :
    Calls Try.prog 11 #[.slice p n c] w fun e w' => e = .returned (.bool true) ∧ Keep w w' := by
  have h38 := list_any p c n l w hn (by omega) hL
  have HL : Hid (RdU w p l) := hL
  obtain ⟨G, hG⟩ : ∃ G, l ++ [4607182418800017408, 4611686018427387904] = G := ⟨_, rfl⟩
  have HG : Hid (l ++ [4607182418800017408, 4611686018427387904] = G) := hG
  obtain ⟨N, hN⟩ : ∃ N, n + 2 = N := ⟨_, rfl⟩
  have HN : Hid (G.length = N ∧ l.length = n) := ⟨by rw [← hG]; simp [hn]; omega, hn⟩
  have HF : Hid (F64 G) := by
    intro x hx
    rw [← hG] at hx
    rcases List.mem_append.1 hx with q | q
    · exact hF x q
    · simp at q; omega
  have hf := fun x wx => f64bits x wx
  have hbeg := begins_any w
  have t1 : True := trivial
  have t2 : True := trivial
  have t3 : True := trivial
  have t4 : True := trivial
  have hNb : N ≤ 1048578 := by omega
  clear hL hn hF hG
  go_enter Try.func11, Try.ntmps11
  go_wp2_with (first
    | (go_at_call 46; refine hbeg.mono ?_; rintro e w0 ⟨rfl, hw0⟩; rw [hw0]; clear hw0 w0 hbeg)
    | (go_at_call 38; refine h38.mono ?_; rintro e w1 ⟨v1, rfl, o1, k1⟩)
    | (at_builtin; refine wpList_appM Try.underlying62 i23 rfl w.heap.size _ rfl _ _ rfl n 2 (UF l) (UF [4607182418800017408, 4611686018427387904]) _ rfl (own_keep o1 ((Keep.refl _).alloc _)) (k1.alloc (Obj.cells #[.float .f64 4607182418800017408, .float .f64 4611686018427387904] 23)).le ⟨w1.heap.size, 0, none⟩ 2 rfl rfl (newsF2 w1 _ _) (UF_one _) (by omega) ?_; intro v2 w2 o2 g2; have k2 := keep_grown (k1.alloc (Obj.cells #[.float .f64 4607182418800017408, .float .f64 4611686018427387904] 23)) (own_keep o1 ((Keep.refl w1).alloc _)) g2; obtain ⟨g, cap, hve⟩ : ∃ g cap, v2 = .slice (some ⟨g, 0, none⟩) (n + 2) cap := (by obtain ⟨g, cap, cur, hv, _⟩ := Or.resolve_left o2.2 (by rintro ⟨-, q⟩; omega); exact ⟨g, cap, hv⟩); subst hve; rw [hN] at o2 ⊢; have hu : UF l ++ UF [4607182418800017408, 4611686018427387904] = UF G := (by rw [← HG.out]; simp [UF]); rw [hu] at o2; have hA2 : Hid (Arr w2 g G) := own_arr (r := []) (by rw [List.append_nil]; exact o2); have K2 : Hid (Keep w w2) := k2; clear o2 o1 g2 k1 k2 hu)
    | (go_at_call 40; clear t1; refine (Sorted_any g cap N G w2 HF.out HN.out.1 (by omega) hA2.out).mono ?_; rintro e w3 ⟨M, m1, m2, m3, rfl, m4, k3, z3⟩; have hM3 : Hid (M.length = N ∧ srt kI M ∧ eqv kI M G) := ⟨m1, m2, m3⟩; have hA3 : Hid (Arr w3 w2.heap.size M) := m4; have K3 : Hid (Keep w2 w3) := k3; have Z3 : Hid (w3.heap.size = w2.heap.size + 1) := z3; clear m1 m2 m3 m4 k3 z3)
    | (go_at_call 40; clear t2; refine (Sorted_any g cap N G w3 HF.out HN.out.1 (by omega) (hA2.out.keep K3.out)).mono ?_; rintro e w4 ⟨M', m1, m2, m3, rfl, m4, k4, z4⟩; obtain rfl : M' = M := one m2 hM3.out.2.1 (m3.trans hM3.out.2.2.symm); have hA4 : Hid (Arr w4 w3.heap.size M') := m4; have K4 : Hid (Keep w3 w4) := k4; have Z4 : Hid (w4.heap.size = w3.heap.size + 1) := z4; clear m1 m2 m3 m4 k4 z4)
    | (go_at_call 42; clear t3; refine (Distinct_any (some ⟨g, 0, none⟩) cap N G w4 HF.out HN.out.1 (by omega) (Arr.rdv ((hA2.out.keep K3.out).keep K4.out))).mono ?_; rintro e w5 ⟨gc, cc, D, rfl, d5, o5, k5⟩; obtain ⟨d, hd⟩ : ∃ d, D.length = d := ⟨_, rfl⟩; have HD : Hid (D.length = d ∧ Dst G D) := ⟨hd, d5⟩; rw [hd] at o5 ⊢; have hO5 : Hid (w5.ownsRow w4.heap.size 23 1 (.slice (some ⟨gc, 0, none⟩) d cc) d (UF D)) := o5; have K5 : Hid (Keep w4 w5) := k5; clear d5 o5 k5 hd)
    | (go_at_call 42; clear t4; refine (Distinct_any (some ⟨g, 0, none⟩) cap N G w5 HF.out HN.out.1 (by omega) (Arr.rdv (((hA2.out.keep K3.out).keep K4.out).keep K5.out))).mono ?_; rintro e w6 ⟨gd, cd, D', rfl, d6, o6, k6⟩; obtain rfl : D' = D := d6.one HD.out.2 (fun _ => Iff.rfl); rw [HD.out.1] at o6 ⊢; have hO6 : Hid (w6.ownsRow w5.heap.size 23 1 (.slice (some ⟨gd, 0, none⟩) d cd) d (UF D')) := o6; have K6 : Hid (Keep w5 w6) := k6; have hd2 : ¬ d < 2 := (by have h := HD.out; rw [← HG.out] at h; have := dst_two_in h.2; omega); have hd2c : ¬ (d : Int) < 2 := (by omega); have hdN : d ≤ N := (by have h := HD.out.2.len; rw [HD.out.1, HN.out.1] at h; exact h); clear d6 o6 k6))
  -- who lies where
  have hP : Hid (g < w2.heap.size ∧ w4.heap.size ≤ gc ∧ gc < w5.heap.size ∧ w5.heap.size ≤ gd ∧ gd < w6.heap.size ∧ w4.heap.size = w2.heap.size + 2 ∧ w3.heap.size = w2.heap.size + 1 ∧ w4.heap.size ≤ w5.heap.size ∧ w5.heap.size ≤ w6.heap.size ∧ w.heap.size ≤ w2.heap.size) := by
    have q1 := hA2.out.lt
    obtain ⟨q2, c2, h2⟩ := own_block hO5.out (b := gc) rfl
    obtain ⟨q3, c3, h3⟩ := own_block hO6.out (b := gd) rfl
    have q4 := (Array.getElem?_eq_some_iff.1 h2).1
    have q5 := (Array.getElem?_eq_some_iff.1 h3).1
    have q6 := Z3.out
    have q7 := Z4.out
    have q8 := K5.out.le
    have q9 := K6.out.le
    exact ⟨q1, q2, q4, q3, q5, by omega, q6, q8, q9, K2.out.le⟩
  have hB6 : Hid (Arr w6 w3.heap.size M') := (hA4.out.keep K5.out).keep K6.out
  have hD6 : Hid (Arr w6 gd D') := own_arr (r := []) (by rw [List.append_nil]; exact hO6.out)
  have hC6 : Hid (w6.ownsRow w4.heap.size 23 1 (.slice (some ⟨gc, 0, none⟩) d cc) d (UF D')) := own_keep hO5.out K6.out
  have hG6 : Hid (Arr w6 g G) := (((hA2.out.keep K3.out).keep K4.out).keep K5.out).keep K6.out
  have hX6 : Hid (Arr w6 w2.heap.size M') := ((hA3.out.keep K4.out).keep K5.out).keep K6.out
  have HML : Hid (M'.length = N) := hM3.out.1
  have HDL : Hid (D'.length = d) := HD.out.1
  have K06 : Hid (Keep w w6) := ((((K2.out.trans K3.out).trans K4.out).trans K5.out).trans K6.out)
  obtain ⟨gb, hgb⟩ : ∃ gb, w3.heap.size = gb := ⟨_, rfl⟩
  obtain ⟨ga, hga⟩ : ∃ ga, w2.heap.size = ga := ⟨_, rfl⟩
  rw [hgb] at hB6 ⊢
  rw [hga] at hX6 ⊢
  rw [hgb, hga] at hP
  clear hgb hga h38 hO5 hO6 hA2 hA3 hA4 K3 K4 K5 K6 Z3 Z4
  go_loopw [8, 9] (fun v iv wr => ∃ i : Nat, iv = .int .i64 (i : Int) ∧ i ≤ N ∧ wr.ownsRow w6.heap.size 22 1 v i (UU (M'.take i)) ∧ Keep w6 wr) (fun _ iv _ => N - (intOf iv).toNat)
  case atStart => exact ⟨0, rfl, by omega, own_nil 22 1 _ _, Keep.refl _⟩
  case round =>
    obtain ⟨i, rfl, hi, hown, kw⟩ := hrel
    by_cases hin : i < N
    · have hic : (i : Int) < (N : Int) := by omega
      have cx := kw.cell (hB6.out.cell (j := i) (by rw [HML.out]; exact hin))
      have htk : Hid (UU (M'.take (i + 1)) = UU (M'.take i) ++ UU [M'.getD i 0]) := by
        have h1 : i < M'.length := by rw [HML.out]; exact hin
        show _ = _
        unfold UU
        rw [← List.map_append]
        congr 1
        rw [List.take_add_one]
        simp [List.getD, h1]
      generalize M'.getD i 0 = x at cx htk
      have hfx := fun wx => hf x wx
      go_wp2_with (at_builtin; refine wpList_appM Try.underlying61 i22 rfl w6.heap.size _ rfl _ _ rfl i 1 (UU (M'.take i)) (UU [x]) _ rfl (own_keep hown ((Keep.refl _).alloc _)) (kw.alloc (Obj.cells #[.int .u64 (x : Nat)] 22)).le ⟨wr.heap.size, 0, none⟩ 1 rfl rfl (newsU wr x) (UU_one _) (by omega) ?_; intro v7 w7 o7 g7; have k7 := keep_grown (kw.alloc (Obj.cells #[.int .u64 (x : Nat)] 22)) (own_keep hown ((Keep.refl wr).alloc _)) g7)
      refine ⟨⟨i + 1, by go_num, by omega, by rw [htk.out]; exact o7, k7⟩, ?_⟩
      simp [intOf]; omega
    · have hic : ¬ (i : Int) < (N : Int) := by omega
      obtain rfl : i = N := by omega
      rw [← HML.out, List.take_length, HML.out] at hown
      obtain ⟨wo, hwo⟩ : ∃ wo, wo = wr := ⟨_, rfl⟩
      subst hwo
      clear hin hi
      go_wp2_with fail
      go_loopw [8, 10] (fun v iv wr => ∃ k m : Nat, iv = .int .i64 (k : Int) ∧ k ≤ d ∧ Hid (i + k = m) ∧ wr.ownsRow w6.heap.size 22 1 v m (UU (M' ++ D'.take k)) ∧ Keep w6 wr) (fun _ iv _ => d - (intOf iv).toNat)
      case atStart => exact ⟨0, i, rfl, by omega, rfl, by rw [List.take_zero, List.append_nil]; exact hown, kw⟩
      case round =>
        obtain ⟨k, m, rfl, hk, hm, hown, kw⟩ := hrel
        by_cases hkn : k < d
        · have hkc : (k : Int) < (d : Int) := by omega
          have cx := kw.cell (hD6.out.cell (j := k) (by rw [HDL.out]; exact hkn))
          have htk : Hid (UU (M' ++ D'.take (k + 1)) = UU (M' ++ D'.take k) ++ UU [D'.getD k 0]) := by
            have h1 : k < D'.length := by rw [HDL.out]; exact hkn
            show _ = _
            unfold UU
            rw [← List.map_append]
            congr 1
            rw [List.take_add_one, List.append_assoc]
            simp [List.getD, h1]
          have hm1 : m + 1 ≤ 17592186044416 := by have := hm.out; omega
          have hm2 : Hid (i + (k + 1) = m + 1) := by have := hm.out; show _ = _; omega
          generalize D'.getD k 0 = x at cx htk
          have hfx := fun wx => hf x wx
          go_wp2_with (at_builtin; refine wpList_appM Try.underlying61 i22 rfl w6.heap.size _ rfl _ _ rfl m 1 (UU (M' ++ D'.take k)) (UU [x]) _ rfl (own_keep hown ((Keep.refl _).alloc _)) (kw.alloc (Obj.cells #[.int .u64 (x : Nat)] 22)).le ⟨wr.heap.size, 0, none⟩ 1 rfl rfl (newsU wr x) (UU_one _) hm1 ?_; intro v7 w7 o7 g7; have k7 := keep_grown (kw.alloc (Obj.cells #[.int .u64 (x : Nat)] 22)) (own_keep hown ((Keep.refl wr).alloc _)) g7)
          refine ⟨⟨k + 1, m + 1, by go_num, by omega, hm2, by rw [htk.out]; exact o7, k7⟩, ?_⟩
          simp [intOf]; omega
        · have hkc : ¬ (k : Int) < (d : Int) := by omega
          obtain rfl : k = d := by omega
          rw [← HDL.out, List.take_length] at hown
          obtain ⟨wp, hwp⟩ : ∃ wp, wp = wr := ⟨_, rfl⟩
          subst hwp
          have HM : Hid (i + k = m) := hm
          obtain ⟨q8, c8, hv8, hR8⟩ := own_rdu (show (M' ++ D').length = m by rw [List.length_append, HML.out, HDL.out]; exact hm.out) hown
          subst hv8
          have hOx : Hid (wp.ownsRow w6.heap.size 22 1 (.slice q8 m c8) m (UU (M' ++ D'))) := hown
          have KP : Hid (Keep w6 wp) := kw
          have hXp : Hid (Arr wp ga M') := hX6.out.keep kw
          have hCp : Hid (wp.ownsRow w4.heap.size 23 1 (.slice (some ⟨gc, 0, none⟩) k cc) k (UF D')) := own_keep hC6.out kw
          have hpl : Hid (w6.heap.size ≤ wp.heap.size) := kw.le
          clear hkn hk hown hm kw hR8
          go_wp2_with fail
          go_loopw [11] (fun iv wr => ∃ j : Nat, ∃ R : List Nat, iv = .int .i64 (j : Int) ∧ j ≤ i ∧ Hid (R.length = i) ∧ Hid (Arr wr ga R) ∧ Oth ga wp wr) (fun iv _ => i - (intOf iv).toNat)
          case atStart => exact ⟨0, M', rfl, by omega, HML, hXp, Oth.refl _ _⟩
          case round =>
            obtain ⟨j, R, rfl, hj, hR, hAr, ko⟩ := hrel
            by_cases hjn : j < i
            · have hjc : (j : Int) < (i : Int) := by omega
              have cx := hAr.out.cell (j := j) (by rw [hR.out]; exact hjn)
              have fx := hAr.out.frozen j
              have q1 := hAr.out.set j 13837309855095848960
              have q2 := ko.set j (.float .f64 13837309855095848960)
              have Q1 : Hid (Arr (wr.setCell ⟨ga, j, none⟩ (.float .f64 13837309855095848960)) ga (R.set j 13837309855095848960)) := q1
              have hRl : Hid ((R.set j 13837309855095848960).length = i) := by show _ = _; rw [List.length_set]; exact hR.out
              clear q1
              go_wp2_with fail
              refine ⟨⟨j + 1, _, by go_num, by omega, hRl, Q1, q2⟩, ?_⟩
              simp [intOf]; omega
            · have hjc : ¬ (j : Int) < (i : Int) := by omega
              obtain rfl : j = i := by omega
              obtain ⟨wq, hwq⟩ : ∃ wq, wq = wr := ⟨_, rfl⟩
              subst hwq
              have hCq : Hid (wq.ownsRow w4.heap.size 23 1 (.slice (some ⟨gc, 0, none⟩) k cc) k (UF D')) := own_oth hCp.out ko (by have := hP.out; omega)
              have KO : Hid (Oth ga wp wq) := ko
              clear hjn hj ko
              go_wp2_with fail
              go_loopw [12] (fun iv wr => ∃ s : Nat, ∃ xs : List Value, iv = .int .i64 (s : Int) ∧ s ≤ k ∧ wr.ownsRow w4.heap.size 23 1 (.slice (some ⟨gc, 0, none⟩) k cc) k xs ∧ Hid (∀ u ∈ xs, ∃ z : Nat, u = .float .f64 z) ∧ Oth gc wq wr) (fun iv _ => k - (intOf iv).toNat)
              case atStart => exact ⟨0, _, rfl, by omega, hCq.out, by intro u hu; obtain ⟨z, _, rfl⟩ := List.mem_map.1 hu; exact ⟨z, rfl⟩, Oth.refl _ _⟩
              case round =>
                obtain ⟨s, xs, rfl, hs, hown, hxs, kc⟩ := hrel
                by_cases hsn : s < k
                · have hsc : (s : Int) < (k : Int) := by omega
                  have hcx := World.ownsRow.cellAt hown s (by omega)
                  have hxl : xs.length = k := by have := hown.1; omega
                  obtain ⟨z, hz⟩ : ∃ z, xs[s]? = some (.float .f64 z) := by
                    obtain ⟨z, hz⟩ := hxs.out (xs[s]'(by omega)) (List.getElem_mem _)
                    exact ⟨z, by rw [List.getElem?_eq_getElem (by omega), hz]⟩
                  rw [hz] at hcx
                  have fx : wr.frozen? ⟨gc, s, none⟩ = false := by
                    obtain ⟨-, cur, hh⟩ := own_block hown (b := gc) rfl
                    exact frozen_of_row wr gc s cur 23 hh
                  have q1 := own_set hown s 13839561654909534208
                  have q2 := kc.set s (.float .f64 13839561654909534208)
                  have Q1 : Hid ((wr.setCell ⟨gc, s, none⟩ (.float .f64 13839561654909534208)).ownsRow w4.heap.size 23 1 (.slice (some ⟨gc, 0, none⟩) k cc) k (xs.set s (.float .f64 13839561654909534208))) := q1
                  have hxs2 : Hid (∀ u ∈ xs.set s (.float .f64 13839561654909534208), ∃ z : Nat, u = .float .f64 z) := by
                    intro u hu
                    rcases List.mem_or_eq_of_mem_set hu with q | q
                    · exact hxs.out u q
                    · exact ⟨_, q⟩
                  clear q1 hown hz hxl
                  go_wp2_with fail
                  refine ⟨⟨s + 1, _, by go_num, by omega, Q1.out, hxs2, q2⟩, ?_⟩
                  simp [intOf]; omega
                · have hsc : ¬ (s : Int) < (k : Int) := by omega
                  obtain rfl : s = k := by omega
                  obtain ⟨wt, hwt⟩ : ∃ wt, wt = wr := ⟨_, rfl⟩
                  subst hwt
                  have KC : Hid (Oth gc wq wt) := kc
                  have hCt : Hid (wt.ownsRow w4.heap.size 23 1 (.slice (some ⟨gc, 0, none⟩) s cc) s xs) := hown
                  have hAt : Hid (Arr wt ga R) := hAr.out.oth kc (by have := hP.out; omega)
                  have hGt : Hid (Arr wt g G) := ((hG6.out.keep KP.out).oth KO.out (by have := hP.out; omega)).oth KC.out (by have := hP.out; omega)
                  have hBt : Hid (Arr wt gb M') := ((hB6.out.keep KP.out).oth KO.out (by have := hP.out; omega)).oth KC.out (by have := hP.out; omega)
                  have hDt : Hid (Arr wt gd D') := ((hD6.out.keep KP.out).oth KO.out (by have := hP.out; omega)).oth KC.out (by have := hP.out; omega)
                  have hOt : Hid (wt.ownsRow w6.heap.size 22 1 (.slice q8 m c8) m (UU (M' ++ D'))) := own_oth (own_oth hOx.out KO.out (by have := hP.out; omega)) KC.out (by have := hP.out; omega)
                  have Kwt : Hid (Keep w wt) := by
                    have h1 := K06.out.trans KP.out
                    have h2 := K2.out.le
                    exact (h1.oth KO.out (by have := hP.out; omega)).oth KC.out (by have := hP.out; omega)
                  have hst : Hid (w6.heap.size ≤ wt.heap.size) := by
                    have h1 := hpl.out
                    have h2 := KO.out.size
                    have h3 := KC.out.size
                    show _ ≤ _
                    omega
                  have t5 : True := trivial
                  have t6 : True := trivial
                  have t7 : True := trivial
                  have t8 : True := trivial
                  have hgt : Hid (w.heap.size ≤ w4.heap.size) := by
                    have := hP.out
                    show _ ≤ _
                    omega
                  clear hsn hs hown kc hC6 hD6 hB6 hG6 hX6 hOx hXp hCp hCq hAr hxs
                  go_wp2_with (first
                    | (at_builtin; clear t5; refine wpList_full wt ga j 13840687554816376832 R hR.out hAt.out rfl _ _ rfl rfl 1 rfl (by omega) ?_; intro g9 c9 w9 k9 hg9 hA9; have K9 : Hid (Keep wt w9) := k9; have hA9' : Hid (Arr w9 g9 (R ++ [13840687554816376832])) := hA9; have hC9 : Hid (w9.ownsRow w4.heap.size 23 1 (.slice (some ⟨gc, 0, none⟩) s cc) s xs) := own_keep hCt.out k9; have G9 : Hid (wt.heap.size ≤ g9) := hg9; have hB9 : w4.heap.size ≤ (w9.alloc (Obj.cells #[.float .f64 13841813454723219456] 23)).heap.size := (by have h1 := k9.le; have h2 := hst.out; have h3 := hP.out; rw [World.size_alloc]; omega); clear k9 hA9 hg9)
                    | (at_builtin; clear t6; refine wpList_appM Try.underlying62 i23 rfl w4.heap.size _ rfl _ _ rfl s 1 xs (UF [13841813454723219456]) _ rfl (own_keep hC9.out ((Keep.refl _).alloc _)) hB9 ⟨w9.heap.size, 0, none⟩ 1 rfl rfl (newsF w9 13841813454723219456) (UF_one _) (by omega) ?_; intro v10 w10 o10 g10; obtain ⟨gx, cx, hve⟩ : ∃ gx cx, v10 = .slice (some ⟨gx, 0, none⟩) (s + 1) cx := (by obtain ⟨gx, cx, cur, hv, _⟩ := Or.resolve_left o10.2 (by rintro ⟨-, q⟩; omega); exact ⟨gx, cx, hv⟩); subst hve; have hO10 : Hid (w10.ownsRow w4.heap.size 23 1 (.slice (some ⟨gx, 0, none⟩) (s + 1) cx) (s + 1) (xs ++ UF [13841813454723219456])) := o10; have G10 : Hid ((w9.alloc (Obj.cells #[.float .f64 13841813454723219456] 23)).grownBy w10 (some gc)) := g10; clear o10 g10)
                    | (at_builtin; clear t7; have hB10 : Hid (Arr w10 gb M') := (Arr.grown ((hBt.out.keep K9.out).keep ((Keep.refl w9).alloc (Obj.cells #[.float .f64 13841813454723219456] 23))) G10.out (by have := hP.out; simp; omega)); refine wpList_appM Try.underlying62 i23 rfl w10.heap.size _ rfl _ _ rfl 0 j [] (UF M') _ rfl (World.ownsRow_lit w10 #[] 0 (Nat.le_refl _) (by unfold maxLen; omega) rfl) (by rw [World.size_alloc]; omega) ⟨gb, 0, none⟩ j rfl (by rw [UF_length]; exact HML.out) (arr_news (hB10.out.keep ((Keep.refl w10).alloc _)) HML.out) (UF_one _) (by omega) ?_; intro v11 w11 o11 g11; rw [Nat.zero_add, List.nil_append] at o11; have hO11 : Hid (w11.ownsRow w10.heap.size 23 1 v11 j (UF M')) := o11; have K11 : Hid (Keep w10 w11) := Below.grown ((Keep.refl w10).alloc _) g11 (by rw [World.size_alloc]; omega) (fun b hb => by cases hb; exact Nat.le_refl _); clear o11 g11)
                    | (at_builtin; clear t8; have hD10 : Hid (Arr w10 gd D') := (Arr.grown ((hDt.out.keep K9.out).keep ((Keep.refl w9).alloc (Obj.cells #[.float .f64 13841813454723219456] 23))) G10.out (by have := hP.out; simp; omega)); refine wpList_appM Try.underlying62 i23 rfl w10.heap.size _ rfl _ _ rfl j s (UF M') (UF D') _ rfl hO11.out K11.out.le ⟨gd, 0, none⟩ cd rfl (by rw [UF_length]; exact HDL.out) (arr_news (hD10.out.keep K11.out) HDL.out) (UF_one _) (by omega) ?_; intro v12 w12 o12 g12; have K12 : Hid (Keep w10 w12) := keep_grown K11.out hO11.out g12; rw [HM.out] at o12; obtain ⟨gy, cy, hve⟩ : ∃ gy cy, v12 = .slice (some ⟨gy, 0, none⟩) m cy := (by have h1 := HM.out; obtain ⟨gy, cy, cur, hv, _⟩ := Or.resolve_left o12.2 (by rintro ⟨-, q⟩; omega); exact ⟨gy, cy, hv⟩); subst hve; have hUU : UF M' ++ UF D' = UF (M' ++ D') := (by simp [UF]); rw [hUU] at o12; have hY : Hid (Arr w12 gy (M' ++ D')) := own_arr (r := []) (by rw [List.append_nil]; exact o12); clear o12 g12 hUU))
                  -- where all lies now
                  have hle : Hid (wt.heap.size ≤ w9.heap.size) := K9.out.le
                  have hX12 : Hid (RdU w12 q8 (M' ++ D')) := by
                    have h1 := own_grown (own_keep (own_keep hOt.out K9.out) ((Keep.refl w9).alloc (Obj.cells #[.float .f64 13841813454723219456] 23))) G10.out (fun b hb e => by
                      have h2 := (own_block hOt.out hb).1
                      have h3 := hP.out
                      simp at e
                      omega)
                    obtain ⟨q', c', e', r'⟩ := own_rdu (show (M' ++ D').length = m by rw [List.length_append, HML.out, HDL.out]; exact HM.out) (own_keep h1 K12.out)
                    injection e' with e1 e2 e3
                    subst e1
                    exact r'
                  have hG12 : Hid (Arr w12 g G) := (Arr.grown ((hGt.out.keep K9.out).keep ((Keep.refl w9).alloc (Obj.cells #[.float .f64 13841813454723219456] 23))) G10.out (by have := hP.out; simp; omega)).keep K12.out
                  have hA12 : Hid (Arr w12 g9 (R ++ [13840687554816376832])) := (Arr.grown (hA9'.out.keep ((Keep.refl w9).alloc (Obj.cells #[.float .f64 13841813454723219456] 23))) G10.out (by have := hP.out; have := G9.out; have := hst.out; simp; omega)).keep K12.out
                  have hC12 : Hid (w12.cell? ⟨gx, s, none⟩ = some (.float .f64 13841813454723219456)) := by
                    have h1 := World.ownsRow.cellAt hO10.out s (by omega)
                    have h2 : xs.length = s := by have := hCt.out.1; omega
                    rw [List.getElem?_append_right (by omega), h2, Nat.sub_self] at h1
                    exact K12.out.cell h1
                  have K012 : Hid (Keep w w12) := Keep.trans (Below.grown ((Kwt.out.trans K9.out).alloc (Obj.cells #[.float .f64 13841813454723219456] 23)) G10.out ((Kwt.out.trans K9.out).alloc _).le (fun b hb => by cases hb; have h1 := hP.out; have h2 := hgt.out; omega)) K12.out
                  have hmb : m ≤ 4194304 := by have := HM.out; omega
                  have HYL : Hid ((M' ++ D').length = m) := by show _ = _; rw [List.length_append, HML.out, HDL.out]; exact HM.out
                  go_loopw [14] (fun iv wr => ∃ q : Nat, iv = .int .i64 (q : Int) ∧ q ≤ m ∧ ∃ z, wr = w12.drewN z) (fun iv _ => m - (intOf iv).toNat)
                  case atStart => exact ⟨0, rfl, by omega, 0, rfl⟩
                  case round =>
                    obtain ⟨q, rfl, hq, z, rfl⟩ := hrel
                    by_cases hqn : q < m
                    · have hqc : (q : Int) < (m : Int) := by omega
                      have cy := hY.out.cell (j := q) (by rw [HYL.out]; exact hqn)
                      obtain ⟨gz, oz, e8, cz⟩ := hX12.out q (by rw [HYL.out]; exact hqn)
                      subst e8
                      generalize (M' ++ D').getD q 0 = x at cy cz
                      have hfx := fun wx => hf x wx
                      go_wp2_with fail
                      refine wp_region_quiet_lit (by kernel_rfl) (by kernel_rfl) ?_
                      iterate 10
                        with_reducible refine wpQuiet_step ?_
                        intro K hK
                        go_simp
                        first
                          | (with_reducible refine hK _ ?_; clear hK K)
                          | (with_reducible refine (if_neg ?_).mpr (hK _ ?_)
                             · decide
                             clear hK K)
                          | (apply Exists.intro
                             refine ⟨fun _ => ?_, hK _ ?_⟩
                             · with_reducible rfl
                             clear hK K)
                      refine wpQuiet_nil ?_
                      rintro _ ⟨nq, rfl⟩
                      go_wp2_with fail
                      refine ⟨⟨q + 1, by go_num, by omega, z + nq, by simp [World.drewN, Nat.add_assoc]⟩, ?_⟩
                      simp [intOf]; omega
                    · have hqc : ¬ (q : Int) < (m : Int) := by omega
                      obtain rfl : q = m := by omega
                      obtain ⟨n1, hn1⟩ : ∃ n1, n + 1 = n1 := ⟨_, rfl⟩
                      have hs1 : (j : Int) - 1 = (n1 : Int) := by omega
                      have hs2 : (j : Int) - 2 = (n : Int) := by omega
                      have w1' : IntKind.i64.wrap ((j : Int) - 1) = (n1 : Int) := by rw [IntWalk.i64_left, hs1]; exact IntWalk.wrap64_in _ (by omega)
                      have w2' : IntKind.i64.wrap ((j : Int) - 2) = (n : Int) := by rw [IntWalk.i64_left, hs2]; exact IntWalk.wrap64_in _ (by omega)
                      have w3' : IntKind.i64.wrap ((j : Int) + 1 - 1) = (j : Int) := by rw [IntWalk.i64_left, show (j : Int) + 1 - 1 = (j : Int) by omega]; exact IntWalk.wrap64_in _ (by omega)
                      have w4' : IntKind.i64.wrap ((s : Int) + 1 - 1) = (s : Int) := by rw [IntWalk.i64_left, show (s : Int) + 1 - 1 = (s : Int) by omega]; exact IntWalk.wrap64_in _ (by omega)
                      have cG1 : w12.cell? ⟨g, n1, none⟩ = some (.float .f64 4611686018427387904) := by
                        have h1 := hG12.out.cell (j := n1) (by rw [HN.out.1]; omega)
                        rw [← HG.out, getD_right 0 l _ (by rw [HN.out.2]; omega), HN.out.2, show n1 - n = 1 by omega] at h1
                        exact h1
                      have cG0 : w12.cell? ⟨g, n, none⟩ = some (.float .f64 4607182418800017408) := by
                        have h1 := hG12.out.cell (j := n) (by rw [HN.out.1]; omega)
                        rw [← HG.out, getD_right 0 l _ (by rw [HN.out.2]; omega), HN.out.2, Nat.sub_self] at h1
                        exact h1
                      have cA : w12.cell? ⟨g9, j, none⟩ = some (.float .f64 13840687554816376832) := by
                        have h1 := hA12.out.cell (j := j) (by simp [hR.out])
                        rw [getD_right 0 R _ (by rw [hR.out]; omega), hR.out, Nat.sub_self] at h1
                        exact h1
                      have cC := hC12.out
                      have l1 : (n1 : Int) < (j : Int) := by omega
                      have l2 : (n : Int) < (j : Int) := by omega
                      have l3 : n1 < j := by omega
                      have l4 : n < j := by omega
                      have e1 : FloatKind.f64.format.order 4611686018427387904 4611686018427387904 = some .eq := by decide +kernel
                      have e2 : FloatKind.f64.format.order 4607182418800017408 4607182418800017408 = some .eq := by decide +kernel
                      have e3 : FloatKind.f64.format.order 13840687554816376832 13840687554816376832 = some .eq := by decide +kernel
                      have e4 : FloatKind.f64.format.order 13841813454723219456 13841813454723219456 = some .eq := by decide +kernel
                      have hI := fun wx => Inf_any wx
                      obtain ⟨bq, hbq⟩ : ∃ bq, blw G 9218868437227405312 = bq := ⟨_, rfl⟩
                      have hb2 : (2 : Int) ≤ (bq : Int) := by
                        have h1 := blw_inf l
                        rw [HG.out, hbq] at h1
                        omega
                      have hBl : Calls Try.prog 44 #[.slice (some ⟨g, 0, none⟩) j cap, .float .f64 9218868437227405312] (w12.drewN z) fun e w' => e = .returned (.int .i64 (bq : Int)) ∧ w' = w12.drewN z := by
                        have h1 := Below_any g cap j 9218868437227405312 G (w12.drewN z) HF.out HN.out.1 (by omega) (by omega) (hG12.out.drewN z)
                        rw [hbq] at h1
                        exact h1
                      have KZ : Hid (Keep w (w12.drewN z)) := K012.out.trans (Keep.drewN _ _)
                      clear hn1 hs1 hs2 hbq hqn hq hN
                      go_wp2_with (first
                        | (go_at_call 52; refine (hI _).mono ?_; rintro e wi ⟨rfl, hwi⟩; rw [hwi]; clear hwi wi)
                        | (go_at_call 44; refine hBl.mono ?_; rintro e wi ⟨rfl, hwi⟩; rw [hwi]; clear hwi wi))
                      go_ret
                      exact ⟨rfl, KZ.out⟩
end Go.Proofs.Ytjiflgdbgpegiaa
