import Derived.Test.YtaogjiffnebnkaaR8
set_option linter.unusedVariables false
set_option linter.unusedSimpArgs false
namespace Go.Proofs.Ytaogjiffnebnkaa
open Go.RowKit Go.Shelf Go.Maps
def sl : Value → Option Addr × Nat × Nat
  | .slice a l c => (a, l, c)
  | _ => (none, 0, 0)
/-- A feature's list, as it lies. -/
def item (X : GX) (i : Nat) : Li := ⟨X.f i, (sl (X.v i 0)).1, (sl (X.v i 0)).2.1, (sl (X.v i 0)).2.2, (sl (X.v i 1)).1, (sl (X.v i 1)).2.1, (sl (X.v i 1)).2.2, (sl (X.v i 2)).1, (sl (X.v i 2)).2.1, (sl (X.v i 2)).2.2⟩
def mkP : Option Nat → Value
  | none => .pointer none
  | some b => .pointer (some ⟨b, 0, none⟩)
theorem mkP_inv (v : Value) (y : DataW Unit × List MemPlace) (h : pE v = some y) : ∃ c, v = mkP c := by
  rcases pE_inv h with ⟨rfl, -⟩ | ⟨b, rfl, -⟩
  · exact ⟨none, rfl⟩
  · exact ⟨some b, rfl⟩
theorem mkP_lit {c : Option Nat} {y : DataW Unit × List MemPlace} (h : pE (mkP c) = some y) {b : Nat} (hb : y.1 = .lit (.int .i64 (b : Nat))) : c = some b := by
  cases c with
  | none => cases h; simp at hb
  | some x => cases h; simp at hb; simp; omega
theorem cells_ne_map {w : World} {b n g : Nat} {D : DataW Unit} {cur : Array Value} {ty : TypeId} (h : w.ownsMap Try.prog 3 pE b n D) (hg : w.heap[g]? = some (.cells cur ty (0, 0))) : b ≠ g := by
  obtain ⟨es, clock, hb, -⟩ := h
  intro e
  rw [e, hg] at hb; cases hb
theorem cells_ne_iter {w : World} {b r n g cnt : Nat} {D : DataW Unit} {left : Lit → Bool} {cur : Array Value} {ty : TypeId} (h : w.ranges Try.prog 3 pE b r n D left cnt) (hg : w.heap[g]? = some (.cells cur ty (0, 0))) : r ≠ g := by
  obtain ⟨es, clock, since, seen, c0, _, _, _, _, hr, _⟩ := h
  intro e
  rw [e, hg] at hr; cases hr
/-- Which features have been met. -/
structure Mt (X : GX) (left : Lit → Bool) (A : List Nat) (M : Nat → List CI) : Prop where
  nd : A.Nodup
  mem : ∀ i, i ∈ A ↔ i < X.n ∧ left (iL (X.f i)) = false
  old : ∀ i, i < X.n → left (iL (X.f i)) = true → M i = X.K i 0
  new : ∀ i, i < X.n → left (iL (X.f i)) = false → srt Cu.kI (M i) ∧ eqv Cu.kI (M i) (X.K i 0)
theorem iL_same (a : Int) : (iL a).sameKey (iL a) = true := by simp [iL, Lit.sameKey]
theorem iL_diff {a b : Int} (h : a ≠ b) : (iL a).sameKey (iL b) = false := sameKey_ne fun e => h (iL_inj e)
theorem Mt.start (X : GX) (D : DataW Unit) (h : Lk D X) : Mt X (Maps.has D) [] (fun i => X.K i 0) := by
  refine ⟨List.nodup_nil, fun i => ?_, fun _ _ _ => rfl, fun i hi hl => ?_⟩
  · constructor
    · intro q; cases q
    · rintro ⟨h1, h2⟩
      rw [(h.has (X.f i)).2 ⟨i, h1, rfl⟩] at h2; cases h2
  · rw [(h.has (X.f i)).2 ⟨i, hi, rfl⟩] at hl; cases hl
theorem Mt.step {X : GX} {left : Lit → Bool} {A : List Nat} {M : Nat → List CI} (h : Mt X left A M) (fi : ∀ i i', i < X.n → i' < X.n → X.f i = X.f i' → i = i') {i : Nat} (hi : i < X.n) (hl : left (iL (X.f i)) = true) {N : List CI} (h1 : srt Cu.kI N) (h2 : eqv Cu.kI N (M i)) :
    Mt X (fun z => left z && !z.sameKey (iL (X.f i))) (A ++ [i]) (upd M i N) := by
  have hne : ∀ i', i' < X.n → i' ≠ i → (iL (X.f i')).sameKey (iL (X.f i)) = false := fun i' hi' e => iL_diff fun q => e (fi i' i hi' hi q)
  refine ⟨?_, fun i' => ?_, fun i' hi' hl' => ?_, fun i' hi' hl' => ?_⟩
  · rw [List.nodup_append]
    refine ⟨h.nd, by simp, fun a ha b hb e => ?_⟩
    rw [List.mem_singleton.1 hb] at e
    rw [e] at ha
    rw [((h.mem i).1 ha).2] at hl; cases hl
  · rw [List.mem_append, h.mem, List.mem_singleton]
    by_cases e : i' = i
    · subst e; simp [iL_same, hi]
    · constructor
      · rintro (⟨q1, q2⟩ | q)
        · exact ⟨q1, by simp [q2]⟩
        · exact absurd q e
      · rintro ⟨q1, q2⟩
        exact .inl ⟨q1, by simpa [hne i' q1 e] using q2⟩
  · by_cases e : i' = i
    · subst e; simp [iL_same] at hl'
    · unfold upd; rw [if_neg e]
      exact h.old i' hi' (by simpa [hne i' hi' e] using hl')
  · by_cases e : i' = i
    · subst e
      unfold upd; rw [if_pos rfl]
      exact ⟨h1, by rw [← h.old i' hi hl]; exact h2⟩
    · unfold upd; rw [if_neg e]
      exact h.new i' hi' (by simpa [hne i' hi' e] using hl')
theorem srt_idx {A : List Nat} {f : Nat → Int} (hn : A.Nodup) (hf : ∀ i ∈ A, ∀ j ∈ A, f i = f j → i = j) : ∃ A' : List Nat, A'.Perm A ∧ A'.Pairwise fun i j => f i < f j := by
  have hs := List.pairwise_mergeSort (le := fun i j => decide (f i ≤ f j)) (fun a b c h1 h2 => by simp at *; omega) (fun a b => by simp; omega) A
  have hp := List.mergeSort_perm A (fun i j => decide (f i ≤ f j))
  refine ⟨_, hp, ?_⟩
  have hnd := hp.nodup_iff.2 hn
  refine (hs.and hnd).imp_of_mem ?_
  intro a b ha hb h
  have h1 : f a ≤ f b := by simpa using h.1
  have h2 : f a ≠ f b := fun e => h.2 (hf a (hp.mem_iff.1 ha) b (hp.mem_iff.1 hb) e)
  omega
theorem srt_item {X : GX} {A A' : List Nat} (hp : A'.Perm A) (hn : A.Nodup) (hf : ∀ i ∈ A, ∀ j ∈ A, X.f i = X.f j → i = j) (hs : A'.Pairwise fun i j => X.f i < X.f j) : srt Ls.kI (A'.map (item X)) ∧ eqv Ls.kI (A'.map (item X)) (A.map (item X)) := by
  refine ⟨?_, fun k => ?_⟩
  · show (A'.map (item X)).Pairwise _
    rw [List.pairwise_map]
    exact hs.imp fun h => Int.le_of_lt h
  · rw [List.filter_map, List.filter_map]
    congr 1
    have hpf := hp.filter ((fun x => decide (Ls.kI x = k)) ∘ item X)
    have hlen : (A.filter ((fun x => decide (Ls.kI x = k)) ∘ item X)).length ≤ 1 := by
      generalize hg : A.filter ((fun x => decide (Ls.kI x = k)) ∘ item X) = l
      match l, hg with
      | [], _ => simp
      | [a], _ => simp
      | a :: b :: r, hg =>
        exfalso
        have hnf : (a :: b :: r).Nodup := hg ▸ hn.filter _
        have ha : a ∈ A.filter ((fun x => decide (Ls.kI x = k)) ∘ item X) := by rw [hg]; simp
        have hb : b ∈ A.filter ((fun x => decide (Ls.kI x = k)) ∘ item X) := by rw [hg]; simp
        simp only [List.mem_filter, Function.comp, decide_eq_true_eq] at ha hb
        have e : a = b := hf a ha.1 b hb.1 (show (item X a).ft = (item X b).ft from ha.2.trans hb.2.symm)
        rw [e] at hnf
        simp at hnf
    generalize A.filter ((fun x => decide (Ls.kI x = k)) ∘ item X) = l at hpf hlen
    generalize A'.filter ((fun x => decide (Ls.kI x = k)) ∘ item X) = l' at hpf
    match l, hlen with
    | [], _ => exact hpf.eq_nil
    | [a], _ => exact List.perm_singleton.1 hpf
attribute [local go_sem] run_store_float
set_option maxRecDepth 100000 in
set_option maxHeartbeats 4000000 in
theorem lists_any (w0 w : World) (mb : Nat) (X : GX) (hG : GI w0.heap.size w mb X) (k0 : Keep w0 w) (hF : ∀ i, i < X.n → Cu.F64 (X.K i 0)) (hl : ∀ i, i < X.n → (X.K i 0).length ≤ 17592186044416) (hn : X.n ≤ 1099511627775) :
    Calls Try.prog 34 #[.map (some mb)] w fun e w' => ∃ (v : Value) (A : List Nat) (M : Nat → List CI), e = .returned v ∧ Keep w0 w' ∧ GW w0.heap.size w' (X.wth M) ∧ A.length = X.n ∧ (A.Pairwise fun i j => X.f i < X.f j) ∧ (∀ i, i ∈ A ↔ i < X.n) ∧ (∀ i, i < X.n → srt Cu.kI (M i) ∧ eqv Cu.kI (M i) (X.K i 0)) ∧
      ((v = .slice none 0 0 ∧ A = []) ∨ ∃ g c, ∃ cur : Array Value, v = .slice (some ⟨g, 0, none⟩) A.length c ∧ A.length ≤ c ∧ w0.heap.size ≤ g ∧ w'.heap[g]? = some (.cells cur 33 (0, 0)) ∧ cur.toList.take (A.length * 4) = UL (A.map (item X)) ∧ ∀ i, i < X.n → X.bx i ≠ g) := by
  obtain ⟨D, hD1, hD2⟩ := hG.map
  have hFi := hG.fi
  have hMB := hG.mB
  replace hFi : Hid _ := hFi
  go_enter Try.func34, Try.ntmps34
  go_wp2_with (first
    | (at_range; refine wpList_range_own _ rfl _ 74 rfl 3 101 law3 Try.underlying74 pE mb X.n D rfl hD1 ?_; intro w1 hrg hg1 hs1)
    | go_in)
  have kw1 : Keep w w1 := ⟨hg1.os, hg1.tape, hg1.output, hg1.size, fun i hi => hg1.block i hi (by simp)⟩
  have k01 : Hid (Keep w0 w1) := Keep.trans k0 kw1
  have hGW : Hid (GW w0.heap.size w1 (X.wth fun i => X.K i 0)) := (hG.keep kw1).gw
  have hrB : w0.heap.size ≤ w.heap.size := k0.le
  replace hrg : Hid _ := hrg
  simp only [Act.put, List.setIfInBounds_toArray, List.set_cons_zero, List.set_cons_succ]
  go_loopw [3] (fun v wr => ∃ (left : Lit → Bool) (cnt : Nat) (A : List Nat) (M : Nat → List CI), wr.ranges Try.prog 3 pE mb w.heap.size X.n D left cnt ∧ GW w0.heap.size wr (X.wth M) ∧ OwnL w0.heap.size wr v (A.map (item X)) ∧ Hid (∀ i, i < X.n → some (X.bx i) ≠ v.ownBlock) ∧ Hid (Mt X left A M) ∧ Keep w0 wr) (fun _ wr => wr.rangeLeft mb w.heap.size)
  case atStart => exact ⟨_, _, [], _, hrg.out, hGW.out, OwnL.nil _ _, fun i _ e => (by cases e), Mt.start X D hD2, k01.out⟩
  case round =>
    obtain ⟨left, cnt, A, M, hrw, hW, hO, hbx, hM, kw⟩ := hrel
    go_wp2_with (first
      | (at_next; refine wpList_next_ranges _ rfl _ rfl 3 law3 pE (Value.int .i64) mkP (fun key kl hkey => by obtain ⟨x, rfl, _⟩ := Maps.keyOf_int_inv Try.underlying3 hkey; exact ⟨x, rfl⟩) mkP_inv mb w.heap.size X.n _ _ _ rfl hrw ?_ ?_)
      | go_in)
    · intro _ hl0
      have hmA : ∀ i, i ∈ A ↔ i < X.n := fun i => by rw [hM.out.mem]; simp [hl0]
      have hsr : Hid (∀ i, i < X.n → srt Cu.kI (M i) ∧ eqv Cu.kI (M i) (X.K i 0)) := fun i hi => hM.out.new i hi (hl0 _)
      obtain ⟨A', p1, p2⟩ := srt_idx (A := A) (f := X.f) hM.out.nd (fun i hi j hj e => hFi.out i j ((hmA i).1 hi) ((hmA j).1 hj) e)
      have hA'm : Hid (∀ i, i ∈ A' ↔ i < X.n) := fun i => by rw [p1.mem_iff]; exact hmA i
      have hA'l : Hid (A'.length = X.n) := by
        have : A'.Perm (List.range X.n) := (List.perm_ext_iff_of_nodup (p1.nodup_iff.2 hM.out.nd) List.nodup_range).2 (fun i => by rw [hA'm.out i, List.mem_range])
        show _ = _
        rw [this.length_eq, List.length_range]
      have hAl : A.length = X.n := p1.length_eq.symm.trans hA'l.out
      have p2' : Hid (A'.Pairwise fun i j => X.f i < X.f j) := p2
      have hEq := srt_item (X := X) p1 hM.out.nd (fun i hi j hj e => hFi.out i j ((hmA i).1 hi) ((hmA j).1 hj) e) p2
      replace hEq : Hid _ := hEq
      replace hAl : Hid _ := hAl
      rcases hO.2 with ⟨rfl, hz⟩ | ⟨g, cap, cur, rfl, hgB, hgh, hcap, -, -, htk⟩
      · have hz' : Hid (X.n = 0) := by show _ = _; rw [List.length_map] at hz; rw [← hAl.out]; exact hz
        have hS := Ls.sortBy_nil wr
        go_wp2_with (go_at_call 56; refine hS.mono ?_; rintro e w9 ⟨⟨v9, rfl⟩, k9⟩)
        go_ret
        have e0 : A' = [] := List.eq_nil_of_length_eq_zero (hA'l.out.trans hz'.out)
        exact ⟨_, A', M, rfl, Keep.trans kw k9, hW.same (fun b cur ty hb _ => (k9.block b (Array.getElem?_eq_some_iff.1 hb).1).trans hb), hA'l.out, p2'.out, hA'm.out, hsr.out, .inl ⟨rfl, e0⟩⟩
      · have hS := Ls.sortBy_any g cap (A.map (item X)).length (A.map (item X)) wr (fun x _ => Nat.lt_succ_self _) rfl (by rw [List.length_map, hAl.out]; omega) ⟨cur, hgh, htk⟩
        have hcap' : Hid (A'.length ≤ cap) := by show _ ≤ _; rw [List.length_map] at hcap; rw [p1.length_eq]; exact hcap
        have hll : Hid ((A.map (item X)).length = A'.length) := by show _ = _; rw [List.length_map, p1.length_eq]
        have hgne : Hid (∀ i, i < X.n → X.bx i ≠ g) := fun i hi e => hbx.out i hi (by rw [e]; rfl)
        rw [hll.out] at hS ⊢
        clear htk hcap
        go_wp2_with (go_at_call 56; refine hS.mono ?_; rintro e w9 ⟨⟨v9, rfl⟩, ⟨N, n1, n2, n3, cur', n4, n5⟩, o9⟩; replace n1 : Hid _ := n1; replace n2 : Hid _ := n2; replace n3 : Hid _ := n3; replace n4 : Hid _ := n4; replace n5 : Hid _ := n5)
        go_ret
        have eN : N = A'.map (item X) := one n2.out hEq.out.1 (eqv.trans n3.out (eqv.symm hEq.out.2))
        subst eN
        refine ⟨_, A', M, rfl, ?_, ?_, hA'l.out, p2'.out, hA'm.out, hsr.out, .inr ⟨g, cap, cur', rfl, hcap'.out, hgB, n4.out, by have := n5.out; rw [List.length_map] at this; exact this, hgne.out⟩⟩
        · exact ⟨o9.os.trans kw.os, o9.tape.trans kw.tape, o9.output.trans kw.output, Nat.le_trans kw.le o9.size, fun k hk => (o9.block k (Nat.lt_of_lt_of_le hk kw.le) (by omega)).trans (kw.block k hk)⟩
        · refine hW.same fun b cb ty hb hty => ?_
          refine (o9.block b (Array.getElem?_eq_some_iff.1 hb).1 (fun q => ?_)).trans hb
          subst q
          rw [hgh] at hb
          simp at hb
          obtain ⟨i, hi, q⟩ := hty hb.2.symm
          exact hgne.out i hi q
    · intro x c2 kl yd yp w7 cnt7 hkey hlk hv hat hrg7 hlt hg7 hs7 hen
      obtain ⟨x', ex, rfl, hwf⟩ := Maps.keyOf_int_inv Try.underlying3 hkey
      cases ex
      obtain ⟨i, hi, rfl⟩ := (hD2.has x).1 (has_true_of_atKey hat)
      have hb1 := hD2.hit i hi
      obtain rfl : c2 = some (X.bx i) := mkP_lit (y := (yd, yp)) hv ((hat _).symm.trans hb1)
      simp only [mkP] at hen ⊢
      have hW7 : GW w0.heap.size w7 (X.wth M) := hW.same fun b cur ty hb _ => (hg7.block b (Array.getElem?_eq_some_iff.1 hb).1 (fun q => by cases q; exact cells_ne_iter hrw hb rfl)).trans hb
      have hO7 : OwnL w0.heap.size w7 u3 (A.map (item X)) := hO.same fun b hb => by
        obtain ⟨-, c3, hc⟩ := hO.block hb
        exact hg7.block b (Array.getElem?_eq_some_iff.1 hc).1 (fun q => by cases q; exact cells_ne_iter hrw hc rfl)
      have k7 : Keep w0 w7 := Below.grown kw hg7 kw.le (fun b hb => by cases hb; exact hrB)
      have hMi : M i = X.K i 0 := hM.out.old i hi hlk
      have hS := sortRow_any hW7 hi (by rw [hMi]; exact hF i hi) (by rw [hMi]; exact hl i hi)
      obtain ⟨a0, e0, hv0⟩ := (hW7.row i hi 0 (by omega)).slice
      obtain ⟨a1, e1, hv1⟩ := (hW7.row i hi 1 (by omega)).slice
      obtain ⟨a2, e2, hv2⟩ := (hW7.row i hi 2 (by omega)).slice
      generalize ((X.wth M).K i 0).length = l0 at hv0
      generalize ((X.wth M).K i 1).length = l1 at hv1
      generalize ((X.wth M).K i 2).length = l2 at hv2
      replace hv0 : X.v i 0 = .slice a0 l0 e0 := hv0
      replace hv1 : X.v i 1 = .slice a1 l1 e1 := hv1
      replace hv2 : X.v i 2 = .slice a2 l2 e2 := hv2
      have HI : Hid (item X i = ⟨X.f i, a0, l0, e0, a1, l1, e1, a2, l2, e2⟩) := by show _ = _; simp [item, hv0, hv1, hv2, sl]
      have hB7 : ∀ (wx : World), GW w0.heap.size wx (X.wth M) → True := fun _ _ => trivial
      have hcells : Hid (∀ (wx : World) (M' : Nat → List CI), GW w0.heap.size wx (X.wth M') → wx.heap[X.bx i]? = some (.cells #[.int .i64 (X.f i), .slice a0 l0 e0, .slice a1 l1 e1, .slice a2 l2 e2] 33 (0, 0))) := by
        intro wx M' h
        rw [← hv0, ← hv1, ← hv2]; exact (h.box i hi).2
      have r7 := hcells.out w7 M hW7
      have c1 := cell_of_row w7 _ 1 _ 33 (0, 0) r7
      simp at c1
      rw [hv0] at hS
      have hlen : (A.map (item X)).length + 1 ≤ 1099511627776 := by
        rw [List.length_map]
        have hsub : A.length ≤ X.n := Mk.nodup_len hM.out.nd (fun j hj => ((hM.out.mem j).1 hj).1)
        omega
      have hrow7 : Hid (∀ b cur, w7.heap[b]? = some (Obj.cells cur 33 (0, 0)) → (X.v i 0).ownBlock ≠ some b) := by
        intro b cur hb q
        obtain ⟨-, c3, hc⟩ := (hW7.row i hi 0 (by omega)).block q
        rw [hb] at hc; simp at hc
      have hrowB : Hid (∀ b, some b = (X.v i 0).ownBlock → w0.heap.size ≤ b) := fun b hb => ((hW7.row i hi 0 (by omega)).block hb.symm).1
      replace hS : Hid _ := hS
      replace hlk : Hid _ := hlk
      go_wp2_with (first
        | (go_at_call 53; refine Calls.mono hS.out ?_; rintro e w8 ⟨⟨v8, rfl⟩, N, n1, n2, hW8, g8⟩; have r8 := hcells.out w8 _ hW8; have d0 := cell_of_row w8 _ 0 _ 33 (0, 0) r8; have d1 := cell_of_row w8 _ 1 _ 33 (0, 0) r8; have d2 := cell_of_row w8 _ 2 _ 33 (0, 0) r8; have d3 := cell_of_row w8 _ 3 _ 33 (0, 0) r8; simp at d0 d1 d2 d3; replace n1 : Hid _ := n1; replace n2 : Hid _ := n2; replace r8 : Hid _ := r8; have hO8 := hO7.same (w' := w8) (fun b hb => by obtain ⟨-, c3, hc⟩ := hO7.block hb; exact g8.block b (Array.getElem?_eq_some_iff.1 hc).1 (fun q => hrow7.out b c3 hc (by rw [hv0]; exact q.symm))); have k8 : Keep w0 w8 := Below.grown k7 g8 k7.le (fun b hb => hrowB.out b (by rw [hv0]; exact hb.symm)); obtain ⟨wA, hwA⟩ : ∃ wA, w8.alloc (Obj.cells #[.int .i64 (X.f i), .slice a0 l0 e0, .slice a1 l1 e1, .slice a2 l2 e2] 33) = wA := ⟨_, rfl⟩; have kA : Keep w8 wA := (by rw [← hwA]; exact (Keep.refl w8).alloc _); have hOA := hO8.same (w' := wA) (fun b hb => by obtain ⟨-, c3, hc⟩ := hO8.block hb; exact kA.block b (Array.getElem?_eq_some_iff.1 hc).1); have kwA : Keep w0 wA := Keep.trans k8 kA; have hnw := newsL w8 _ rfl ⟨X.f i, a0, l0, e0, a1, l1, e1, a2, l2, e2⟩; replace hwA : Hid _ := hwA)
        | (at_builtin; rw [hwA.out] at hnw ⊢; refine wpList_appL w0.heap.size _ rfl _ _ rfl (A.map (item X)) ⟨X.f i, a0, l0, e0, a1, l1, e1, a2, l2, e2⟩ u3 ?_ hOA kwA.le ⟨w8.heap.size, 0, none⟩ 1 ?_ hnw hlen ?_; rotate_left 2; intro v9 w9 hO9 g9 hv9)
        | go_in)
      · have hrg8 := hrg7.kept g8 (fun q => by rw [← hv0] at q; obtain ⟨-, c3, hc⟩ := (hW7.row i hi 0 (by omega)).block q.symm; exact cells_ne_map hrg7.owns hc rfl) (fun q => by rw [← hv0] at q; obtain ⟨-, c3, hc⟩ := (hW7.row i hi 0 (by omega)).block q.symm; exact cells_ne_iter hrg7 hc rfl)
        have gA : w8.grownBy wA none := ⟨kA.os, kA.tape, kA.output, kA.size, fun j hj _ => kA.block j hj⟩
        have hrgA := hrg8.kept gA (by simp) (by simp)
        have hrg9 := hrgA.kept g9 (fun q => by obtain ⟨-, c3, hc⟩ := hOA.block q.symm; exact cells_ne_map hrgA.owns hc rfl) (fun q => by obtain ⟨-, c3, hc⟩ := hOA.block q.symm; exact cells_ne_iter hrgA hc rfl)
        have hWA : GW w0.heap.size wA (X.wth (upd M i N)) := hW8.same fun b cur ty hb _ => (kA.block b (Array.getElem?_eq_some_iff.1 hb).1).trans hb
        have hW9 : GW w0.heap.size w9 (X.wth (upd M i N)) := hWA.same fun b cur ty hb hty => (g9.block b (Array.getElem?_eq_some_iff.1 hb).1 (fun q => by
          obtain ⟨-, c3, hc⟩ := hOA.block q.symm
          rw [hb] at hc
          simp at hc
          obtain ⟨i', hi', q'⟩ := hty hc.2
          exact hbx.out i' hi' (by rw [show X.bx i' = b from q']; exact q))).trans hb
        have k9 : Keep w0 w9 := Below.grown kwA g9 kwA.le (fun b hb => (hOA.block hb).1)
        refine ⟨⟨_, cnt7, A ++ [i], upd M i N, hrg9, hW9, ?_, ?_, hM.out.step hFi.out hi hlk.out n1.out n2.out, k9⟩, ?_⟩
        · rw [List.map_append, show [i].map (item X) = [item X i] from rfl, HI.out]
          exact hO9
        · intro i' hi' q
          rcases hv9 with hv9 | hv9
          · rw [hv9] at q
            exact hbx.out i' hi' q
          · rw [hv9] at q
            have hlt2 := (Array.getElem?_eq_some_iff.1 (hWA.box i' hi').2).1
            have q' : X.bx i' = wA.heap.size := Option.some.inj q
            rw [show (X.wth (upd M i N)).bx i' = X.bx i' from rfl, q'] at hlt2
            exact Nat.lt_irrefl _ hlt2
        · rw [hrg9.left_eq, hrw.left_eq]; exact hlt
      all_goals rfl
end Go.Proofs.Ytaogjiffnebnkaa
