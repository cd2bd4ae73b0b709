import Derived.Test.YtcdcheecaphmgaaDoorM19
set_option linter.unusedVariables false
set_option linter.unusedSimpArgs false
namespace Go.Proofs.YtcdcheecaphmgaaDoor
open Go.RowKit Go.Shelf
/-- The leaf that a choice leads to, by its number. -/
def BT.exN (c : Nat → Bool) : BT → Nat
  | .leaf i => i
  | .node i l r => if c i = true then l.exN c else r.exN c
theorem Bt.exN_leaf {t : Sh} (c : Nat → Bool) {b : BT} {i : Nat} (h : Bt t b i) : t.K (b.exN c) = false ∧ b.exN c ∈ b.pre := by
  induction h with
  | leaf h => exact ⟨h, by simp [BT.exN, BT.pre]⟩
  | node h hl hr il ir =>
    simp only [BT.exN, BT.pre, List.mem_cons, List.mem_append]
    split
    · exact ⟨il.1, .inr (.inl il.2)⟩
    · exact ⟨ir.1, .inr (.inr ir.2)⟩
theorem getLast_cons (i : Nat) (l : List Nat) (h : l ≠ []) : (i :: l).getLastD 0 = l.getLastD 0 := by
  cases l with
  | nil => exact absurd rfl h
  | cons x l => rfl
theorem path_ne' (t : Sh) (c : Nat → Bool) (f i : Nat) : path t c f i ≠ [] := by
  cases f with
  | zero => simp [path]
  | succ f => rw [path]; split <;> simp
theorem Bt.path_last {t : Sh} {n : Nat} (ht : Tr t n) (c : Nat → Bool) {b : BT} {i : Nat} (h : Bt t b i) : ∀ (f k : Nat), Lv t i k → n ≤ f + k + 1 → (path t c f i).getLastD 0 = b.exN c := by
  induction h with
  | leaf h => intro f k _ _; rw [path_leaf h]; rfl
  | @node i l r h hl hr il ir =>
    intro f k hk hn
    cases f with
    | zero => have := (hk.next c h).lt ht; omega
    | succ f =>
      rw [path_inner h, getLast_cons _ _ (path_ne' _ _ _ _)]
      simp only [BT.exN]
      split
      · exact il f (k + 1) (hk.left h) (by omega)
      · exact ir f (k + 1) (hk.right h) (by omega)
theorem end_exN {L : List Nd} (xs : List Nat) (hT : Tr (shp L) L.length) {b : BT} (hb : Bt (shp L) b 0) : endN L xs = b.exN (chs L xs) := by
  unfold endN way
  exact hb.path_last hT _ _ 0 .zero (by have := hT.wi.1; omega)
theorem takeWhile_in {l m : List Nat} {e : Nat} (h : e ∈ l) : (l ++ m).takeWhile (fun i => decide (i ≠ e)) = l.takeWhile (fun i => decide (i ≠ e)) := by
  induction l with
  | nil => simp at h
  | cons x l ih =>
    by_cases hx : x = e
    · subst hx
      rw [List.cons_append, List.takeWhile_cons_of_neg (by simp), List.takeWhile_cons_of_neg (by simp)]
    · have h2 : e ∈ l := by
        rcases List.mem_cons.1 h with h | h
        · exact absurd h.symm hx
        · exact h
      rw [List.cons_append, List.takeWhile_cons_of_pos (by simpa using hx), List.takeWhile_cons_of_pos (by simpa using hx), ih h2]
theorem takeWhile_out {l m : List Nat} {e : Nat} (h : e ∉ l) : (l ++ m).takeWhile (fun i => decide (i ≠ e)) = l ++ m.takeWhile (fun i => decide (i ≠ e)) := by
  induction l with
  | nil => rfl
  | cons x l ih =>
    have hx : x ≠ e := fun q => h (by rw [q]; simp)
    have h2 : e ∉ l := fun q => h (List.mem_cons_of_mem _ q)
    rw [List.cons_append, List.takeWhile_cons_of_pos (by simpa using hx), ih h2, List.cons_append]
theorem Bt.place {t : Sh} (c : Nat → Bool) {b : BT} {i : Nat} (h : Bt t b i) (hnd : b.pre.Nodup) : ∀ a, a + ((b.pre.takeWhile (fun j => decide (j ≠ b.exN c))).filter (fun j => !t.K j)).length = b.ext c a := by
  induction h with
  | leaf h => intro a; simp [BT.pre, BT.exN, BT.ext]
  | @node i l r h hl hr il ir =>
    intro a
    simp only [BT.pre, List.nodup_cons, List.nodup_append, List.mem_append] at hnd
    obtain ⟨h1, h2, h3, h4⟩ := hnd
    have ln := hl.exN_leaf c
    have rn := hr.exN_leaf c
    have ep : (BT.node i l r).pre = i :: (l.pre ++ r.pre) := rfl
    rw [ep]
    by_cases hc : c i = true
    · have e1 : (BT.node i l r).exN c = l.exN c := by simp [BT.exN, hc]
      have e2 : (BT.node i l r).ext c a = l.ext c a := by simp [BT.ext, hc]
      rw [e1, e2]
      have hie : i ≠ l.exN c := fun q => h1 (.inl (by rw [q]; exact ln.2))
      rw [List.takeWhile_cons_of_pos (by simpa using hie), takeWhile_in ln.2, List.filter_cons_of_neg (by simp [h])]
      exact il h2 a
    · have e1 : (BT.node i l r).exN c = r.exN c := by simp [BT.exN, hc]
      have e2 : (BT.node i l r).ext c a = r.ext c (a + l.nl) := by simp [BT.ext, hc]
      rw [e1, e2]
      have hie : i ≠ r.exN c := fun q => h1 (.inr (by rw [q]; exact rn.2))
      have hnl : r.exN c ∉ l.pre := fun q => h4 _ q _ rn.2 rfl
      rw [List.takeWhile_cons_of_pos (by simpa using hie), takeWhile_out hnl, List.filter_cons_of_neg (by simp [h]), List.filter_append, List.length_append, hl.pre_lv, l.lv_len]
      have := ir h3 (a + l.nl)
      omega
theorem BT.lv_ext (c : Nat → Bool) (b : BT) : ∀ a, b.lv.getD (b.ext c a - a) 0 = b.exN c := by
  induction b with
  | leaf i => intro a; simp [BT.lv, BT.ext, BT.exN]
  | node i l r hl hr =>
    intro a
    have h1 := l.ext_in c a
    have h2 := r.ext_in c (a + l.nl)
    have l1 := l.lv_len
    simp only [BT.lv, BT.ext, BT.exN]
    split
    · rw [← hl a, List.getD_eq_getElem?_getD, List.getD_eq_getElem?_getD, List.getElem?_append_left (by omega)]
    · rw [← hr (a + l.nl), List.getD_eq_getElem?_getD, List.getD_eq_getElem?_getD, List.getElem?_append_right (by omega)]
      congr 2
      omega
theorem lf_ext {L : List Nd} (xs : List Nat) (hw : wyE L xs.length = 0) (hT : Tr (shp L) L.length) {b : BT} (hb : Bt (shp L) b 0) : lfK L xs = extI L xs b ∧ lfV L xs = (L.getD (b.lv.getD (extI L xs b) 0) nd0).vl := by
  have hnd : b.pre.Nodup := by rw [← ord_bt hT hb]; exact ord_nodup hT.wi
  have h1 := hb.place (chs L xs) hnd 0
  have h2 := b.lv_ext (chs L xs) 0
  unfold lfK lfV
  rw [if_pos hw, if_pos hw, end_exN xs hT hb]
  unfold plc extI
  rw [ord_bt hT hb]
  rw [Nat.sub_zero] at h2
  rw [h2]
  refine ⟨?_, rfl⟩
  rw [← h1, Nat.zero_add]
  rfl
end Go.Proofs.YtcdcheecaphmgaaDoor
set_option linter.unusedVariables false
set_option linter.unusedSimpArgs false
namespace Go.Proofs.YtcdcheecaphmgaaDoor
open Go.RowKit Go.Shelf
/-- What Exit and Leaf say is one. -/
theorem exit_leaf {L : List Nd} {xs : List Nat} {k : Nat} {v : Int} (hm : shE L = 0 → (lvs L).length ≤ 4096) (h1 : lvG L xs.length ≠ 0 → k = 0 ∧ v = 0) (h2 : ∀ b, lvG L xs.length = 0 → Bt (shp L) b 0 → k = extI L xs b ∧ v = (L.getD (b.lv.getD (extI L xs b) 0) nd0).vl) :
    lvG L xs.length = wyE L xs.length ∧ k = lfK L xs ∧ v = lfV L xs := by
  by_cases hE : shE L = 0
  · have hl := hm hE
    have hv : lvE L = 0 := by unfold lvE; rw [if_neg (by simpa using hE), if_neg (by omega)]
    have he : lvG L xs.length = wyE L xs.length := by
      unfold lvG wyE
      rw [if_neg (by simpa using hv), if_pos hE]
    by_cases hg : lvG L xs.length = 0
    · obtain ⟨-, -, hT, b, hb, -, -⟩ := lvE_ok hv
      obtain ⟨a1, a2⟩ := h2 b hg hb
      obtain ⟨b1, b2⟩ := lf_ext xs (he ▸ hg) hT hb
      exact ⟨he, by rw [a1, b1], by rw [a2, b2]⟩
    · obtain ⟨a1, a2⟩ := h1 hg
      have hw : wyE L xs.length ≠ 0 := by rw [← he]; exact hg
      refine ⟨he, ?_, ?_⟩
      · rw [a1]; unfold lfK; rw [if_neg hw]
      · rw [a2]; unfold lfV; rw [if_neg hw]
  · have hv : lvE L = shE L := by unfold lvE; rw [if_pos hE]
    have hg : lvG L xs.length = shE L := by unfold lvG; rw [if_pos (by rw [hv]; exact hE), hv]
    have hw : wyE L xs.length = shE L := by unfold wyE; rw [if_neg hE]
    obtain ⟨a1, a2⟩ := h1 (by rw [hg]; exact hE)
    refine ⟨by rw [hg, hw], ?_, ?_⟩
    · rw [a1]; unfold lfK; rw [if_neg (by rw [hw]; exact hE)]
    · rw [a2]; unfold lfV; rw [if_neg (by rw [hw]; exact hE)]
set_option maxRecDepth 100000 in
set_option maxHeartbeats 1000000 in
theorem law_exit (a ax : Option Addr) (cap cx : Nat) (out : Int) (L : List Nd) (xs : List Nat) (hLn : L.length ≤ 2199023255552) (hxl : xs.length ≤ 17592186044416) (w : World) (hTab : Bi.Tab w) (hrd : RdN w a L) (hxd : RdF w ax xs) :
    Calls Tryd.prog 5 #[.agg #[.int .i64 out, .slice a L.length cap], .slice ax xs.length cx] w fun e w' => e = .returned (.bool true) ∧ Keep w w' := by
  obtain ⟨w1, hw1, k1, tb⟩ : ∃ w1, w.alloc (Obj.cells #[Value.int IntKind.i64 out, Value.slice a L.length cap] 24) = w1 ∧ Keep w w1 ∧ w1.heap[w.heap.size]? = some (Obj.cells #[Value.int IntKind.i64 out, Value.slice a L.length cap] 24 (0, 0)) := ⟨_, rfl, (Keep.refl w).alloc _, heap_alloc_new w _⟩
  have x0 := cell_of_row _ _ 0 _ 24 (0, 0) tb
  have x1 := cell_of_row _ _ 1 _ 24 (0, 0) tb
  simp only [List.getElem?_toArray, List.getElem?_cons_zero, List.getElem?_cons_succ] at x0 x1
  have hV := lives_any w1 (Bi.Tab.keep hTab k1)
  replace hw1 : Hid _ := hw1
  go_enter Tryd.func5, Tryd.ntmps5
  go_wp2_with fail
  rw [hw1.out]
  refine hV.mono ?_
  rintro e w2 ⟨rfl, k2⟩
  have k02 := k1.trans k2
  have x0 := k2.cell x0
  have x1 := k2.cell x1
  have hX := Exit_any a ax cap cx out L xs hLn hxl w2 (Bi.Tab.keep hTab k02) (hrd.keep k02) (hxd.keep k02)
  clear hV
  go_wp2_with fail
  refine hX.mono ?_
  rintro e w3 ⟨k, v, rfl, h1, h2, k3⟩
  have k03 := k02.trans k3
  have x0 := k3.cell x0
  have x1 := k3.cell x1
  have hF := Leaf_any a ax cap cx out L xs hLn hxl w3 (hrd.keep k03) (hxd.keep k03)
  replace h1 : Hid _ := h1
  replace h2 : Hid _ := h2
  clear hX
  go_wp2_with fail
  refine hF.mono ?_
  rintro e w4 ⟨rfl, k4⟩
  have k04 := k03.trans k4
  have x0 := k4.cell x0
  have x1 := k4.cell x1
  have hA := Leaves_any a cap out L hLn w4 (hrd.keep k04)
  clear hF
  go_wp2_with fail
  refine hA.mono ?_
  rintro e w5 ⟨v5, rfl, h5, -, k5⟩
  obtain ⟨a5, c5, rfl, -⟩ := OwnI.shape h5
  have k05 := k04.trans k5
  clear hA
  by_cases hE : shE L = 0
  · have cE : (shE L == 0) = true := by rw [hE]; rfl
    by_cases hM : 4096 < (lvs L).length
    · have c2 : decide (((lvs L).length : Int) > 4096) = true := decide_eq_true (by omega)
      have c3 : decide (4096 < ((lvs L).length : Int)) = true := decide_eq_true (by omega)
      have hg : lvG L xs.length = 3 := by unfold lvG lvE; rw [if_neg (show ¬ shE L ≠ 0 by simpa using hE), if_pos hM]; rfl
      have cG : (lvG L xs.length == 3) = true := by rw [hg]; rfl
      replace hE : Hid _ := hE
      replace hg : Hid _ := hg
      go_wp2_with fail
      go_ret
      exact ⟨rfl, k05⟩
    · have c2 : decide (((lvs L).length : Int) > 4096) = false := decide_eq_false (by omega)
      have c3 : decide (4096 < ((lvs L).length : Int)) = false := decide_eq_false (by omega)
      obtain ⟨e1, e2, e3⟩ := exit_leaf (fun _ => by omega) h1.out h2.out
      have d1 : (lvG L xs.length == wyE L xs.length) = true := by rw [e1]; simp
      have d2 : ((k : Int) == (lfK L xs : Int)) = true := by rw [e2]; simp
      have d3 : (v == lfV L xs) = true := by rw [e3]; simp
      replace hE : Hid _ := hE
      replace e1 : Hid _ := e1
      replace e2 : Hid _ := e2
      replace e3 : Hid _ := e3
      go_wp2_with fail
      go_ret
      exact ⟨rfl, k05⟩
  · have cE : (shE L == 0) = false := by rw [beq_eq_false_iff_ne]; exact hE
    obtain ⟨e1, e2, e3⟩ := exit_leaf (fun h => absurd h hE) h1.out h2.out
    have d1 : (lvG L xs.length == wyE L xs.length) = true := by rw [e1]; simp
    have d2 : ((k : Int) == (lfK L xs : Int)) = true := by rw [e2]; simp
    have d3 : (v == lfV L xs) = true := by rw [e3]; simp
    replace hE : Hid _ := hE
    replace e1 : Hid _ := e1
    replace e2 : Hid _ := e2
    replace e3 : Hid _ := e3
    go_wp2_with fail
    go_ret
    exact ⟨rfl, k05⟩
end Go.Proofs.YtcdcheecaphmgaaDoor
