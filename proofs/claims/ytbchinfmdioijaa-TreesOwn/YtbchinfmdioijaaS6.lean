import Derived.Test.YtbchinfmdioijaaS5
set_option linter.unusedVariables false
set_option linter.unusedSimpArgs false
namespace Go.Proofs.Ytbchinfmdioijaa
open Go.RowKit Go.Shelf
theorem boxes3g (w : World) (u v x : Array Value) (t1 t2 t3 : Nat) : ∃ w4, ((w.alloc (Obj.cells u t1)).alloc (Obj.cells v t2)).alloc (Obj.cells x t3) = w4 ∧ Keep w w4 ∧ w4.heap.size = w.heap.size + 3 ∧
    w4.heap[w.heap.size]? = some (Obj.cells u t1 (0, 0)) ∧ w4.heap[w.heap.size + 1]? = some (Obj.cells v t2 (0, 0)) ∧ w4.heap[w.heap.size + 1 + 1]? = some (Obj.cells x t3 (0, 0)) := by
  refine ⟨_, rfl, (((Keep.refl w).alloc _).alloc _).alloc _, by simp, ?_, ?_, ?_⟩
  · exact (Below.heap_alloc _ _ _ (by simp; omega)).trans ((Below.heap_alloc _ _ _ (by simp)).trans (heap_alloc_new w _))
  · have := heap_alloc_new (w.alloc (Obj.cells u t1)) (Obj.cells v t2)
    rw [World.size_alloc] at this
    exact (Below.heap_alloc _ _ _ (by simp)).trans this
  · have := heap_alloc_new ((w.alloc (Obj.cells u t1)).alloc (Obj.cells v t2)) (Obj.cells x t3)
    rw [World.size_alloc, World.size_alloc] at this
    exact this
/-- An ensemble's cells. -/
def ensC (nm : ByteArray) (fa : Option Addr) (F cf : Nat) (N : Int) (ba : Option Addr) (bl cb : Nat) (ta : Option Addr) (tl ct : Nat) : Array Value := #[.string nm, .slice fa F cf, .int .i64 N, .slice ba bl cb, .slice ta tl ct]
theorem set_out {w w2 : World} {h : Nat} {cs : Array Value} {i : Nat} {u : Value} {cs0 cs1 : Array Value} (k : Keep w w2) (hw : w.heap.size ≤ h + 2) (r0 : w2.heap[h]? = some (.cells cs0 52 (0, 0))) (r1 : w2.heap[h + 1]? = some (.cells cs1 52 (0, 0))) (r2 : w2.heap[h + 1 + 1]? = some (.cells cs 52 (0, 0))) :
    Keep w (w2.setCell ⟨h + 1 + 1, i, none⟩ u) ∧ (w2.setCell ⟨h + 1 + 1, i, none⟩ u).heap[h]? = some (.cells cs0 52 (0, 0)) ∧ (w2.setCell ⟨h + 1 + 1, i, none⟩ u).heap[h + 1]? = some (.cells cs1 52 (0, 0)) ∧ (w2.setCell ⟨h + 1 + 1, i, none⟩ u).heap[h + 1 + 1]? = some (.cells (cs.set! i u) 52 (0, 0)) :=
  ⟨k.setCell (by simpa using hw) _, (neq_set w2 _ _ _ h (by omega)).trans r0, (neq_set w2 _ _ _ (h + 1) (by omega)).trans r1, by have := heap_setCell_same w2 (h + 1 + 1) i _ 52 u r2; simpa using this⟩
theorem OwnS.same {B : Nat} {w w' : World} {v : Value} {K : List ByteArray} (h : OwnS B w v K) (k : ∀ b, v.ownBlock = some b → w'.heap[b]? = w.heap[b]?) : OwnS B w' v K := by
  refine ⟨h.1, ?_⟩
  rcases h.2 with h2 | ⟨g, cap, cur, hv, hg, hh, r⟩
  · exact .inl h2
  · exact .inr ⟨g, cap, cur, hv, hg, by rw [k g (by rw [hv]; rfl)]; exact hh, r⟩
theorem OwnS.block {B : Nat} {w : World} {v : Value} {K : List ByteArray} (h : OwnS B w v K) {b : Nat} (hb : v.ownBlock = some b) : B ≤ b ∧ ∃ cur, w.heap[b]? = some (.cells cur 9 (0, 0)) := by
  rcases h.2 with ⟨h1, _⟩ | ⟨g, cap, cur, hv, hg, hh, r⟩
  · rw [h1] at hb; cases hb
  · rw [hv] at hb
    have hb : some g = some b := hb
    simp only [Option.some.injEq] at hb
    subst hb
    exact ⟨hg, cur, hh⟩
theorem OwnS.keep {B : Nat} {w w' : World} {v : Value} {K : List ByteArray} (h : OwnS B w v K) (k : Keep w w') : OwnS B w' v K :=
  h.same (fun b hb => by obtain ⟨_, cur, hh⟩ := h.block hb; exact k.block b (Array.getElem?_eq_some_iff.1 hh).1)
/-- What Copy holds between two rounds. -/
structure CIt (ts : List (Int × List Nd)) (W : World) (k : Nat) (v : Value) (wr : World) (K : List (Int × Option Addr × Nat × Nat)) : Prop where
  len : K.length = k
  eq : ∀ j, j < k → (K.getD j tt0).1 = (ts.getD j (0, [])).1 ∧ (K.getD j tt0).2.2.1 = (ts.getD j (0, [])).2.length ∧ (ts.getD j (0, [])).2.length ≤ (K.getD j tt0).2.2.2
  own : OwnT W.heap.size wr v K
  ct : ∀ j, j < k → CT wr (fun b => W.heap.size ≤ b ∧ b < wr.heap.size ∧ v.ownBlock ≠ some b) (K.getD j tt0).2.1 (K.getD j tt0).2.2.2 (ts.getD j (0, [])).2
  kp : Keep W wr
theorem getD_snocT (K : List (Int × Option Addr × Nat × Nat)) (r : Int × Option Addr × Nat × Nat) (j : Nat) : (K ++ [r]).getD j tt0 = if j = K.length then r else K.getD j tt0 := by
  by_cases h : j < K.length
  · rw [if_neg (by omega)]; simp [List.getD, List.getElem?_append, h]
  · by_cases h2 : j = K.length
    · subst h2; simp [List.getD]
    · rw [if_neg h2]; simp [List.getD, List.getElem?_append, h, show ¬ j - K.length = 0 by omega]
theorem newsT (W : World) (out : Int) (a : Option Addr) (n c : Nat) : ∀ j u, (UT [(out, a, n, c)])[j]? = some u → (W.alloc (Obj.cells #[Value.int .i64 out, Value.slice a n c] 24)).cell? ((⟨W.heap.size, 0, none⟩ : Addr).add j) = some u := by
  intro j u hj
  rw [Go.WideShapes.add_plain, Nat.zero_add, cell_of_row _ _ _ _ 24 (0, 0) (heap_alloc_new W _)]
  simpa [UT] using hj
theorem step_appT {B : Nat} {w : World} {ops : Array Oper} {o : Oper} {a : Act} {K : Act → World → Prop} {Q : Exit → Act → World → Prop} {E : Prop} (hgd : o.guard = none) (s x : Operand)
    (ho : o.op = .call { callee := .builtin .append, args := #[s, x], argTypes := #[50, 50] }) (l : List (Int × Option Addr × Nat × Nat)) (out : Int) (an : Option Addr) (n cn : Nat) (v : Value) (hown : OwnT B w v l) (hB : B ≤ w.heap.size) (hlen : l.length + 1 ≤ 4398046511104)
    (hs : a.eval s = v) (hx : a.eval x = .slice (some ⟨w.heap.size, 0, none⟩) 1 1)
    (hK : ∀ v' w', OwnT B w' v' (l ++ [(out, an, n, cn)]) → (w.alloc (.cells #[.int .i64 out, .slice an n cn] 24)).grownBy w' v.ownBlock → (v'.ownBlock = v.ownBlock ∨ v'.ownBlock = some (w.heap.size + 1)) → K (a.put o.dst v') w') :
    if Region.wanted o (yielded ops a.tmps) = true then Oper.wp Try.prog o a (w.alloc (.cells #[.int .i64 out, .slice an n cn] 24)) K Q else E := by
  have hw : Region.wanted o (yielded ops a.tmps) = true := by simp [Region.wanted, hgd]
  rw [if_pos hw]
  obtain ⟨v', w', hr, h2, h3, h4⟩ := appT_sep B (w.alloc (.cells #[.int .i64 out, .slice an n cn] 24)) o.type v l (out, an, n, cn) (hown.keep ((Keep.refl w).alloc _)) (by rw [World.size_alloc]; omega) ⟨w.heap.size, 0, none⟩ 1 (newsT w out an n cn) hlen
  unfold Oper.wp execOp
  simp only [ho, resolve, invoke, builtin, Sem.run_bind, Sem.run_pure, Result.andThen_ok, List.map_toArray, List.map_cons, List.map_nil, hs, hx, hr]
  exact hK v' w' h2 h3 (by simpa using h4)
theorem CIt.step {ts : List (Int × List Nd)} {W : World} {k : Nat} {v : Value} {wr : World} {K : List (Int × Option Addr × Nat × Nat)} (hI : CIt ts W k v wr K) {out : Int} {L : List Nd} {an : Option Addr} {cn : Nat} {w6 w7 : World} {v' : Value} {ob : Obj}
    (hT : ts.getD k (0, []) = (out, L)) (kw : Keep wr w6) (hC : CT w6 (fun b => wr.heap.size ≤ b ∧ b < w6.heap.size) an cn L) (hc : L.length ≤ cn) (hO : OwnT W.heap.size w7 v' (K ++ [(out, an, L.length, cn)])) (g7 : (w6.alloc ob).grownBy w7 v.ownBlock) (hv : v'.ownBlock = v.ownBlock ∨ v'.ownBlock = some (w6.heap.size + 1)) :
    CIt ts W (k + 1) v' w7 (K ++ [(out, an, L.length, cn)]) := by
  have hlt : ∀ b, v.ownBlock = some b → W.heap.size ≤ b ∧ b < wr.heap.size := by
    intro b hb
    obtain ⟨h1, cur, hc⟩ := hI.own.block hb
    exact ⟨h1, (Array.getElem?_eq_some_iff.1 hc).1⟩
  have hle := kw.le
  have hle0 := hI.kp.le
  have ka : Keep w6 (w6.alloc ob) := (Keep.refl w6).alloc _
  have hsz := g7.size
  rw [World.size_alloc] at hsz
  have hbl : ∀ b, b < w6.heap.size → v.ownBlock ≠ some b → w7.heap[b]? = w6.heap[b]? := fun b hb hne => (g7.block b (by rw [World.size_alloc]; omega) (fun e => hne e.symm)).trans (ka.block b hb)
  have hne' : ∀ b, b < w6.heap.size → v.ownBlock ≠ some b → v'.ownBlock ≠ some b := by
    intro b hb hne e
    rcases hv with h | h
    · rw [h] at e; exact hne e
    · rw [h] at e; simp only [Option.some.injEq] at e; omega
  refine ⟨by rw [List.length_append, hI.len]; rfl, ?_, hO, ?_, ?_⟩
  · intro j hj
    rw [getD_snocT, hI.len]
    by_cases e : j = k
    · rw [if_pos e, e, hT]; exact ⟨rfl, rfl, hc⟩
    · rw [if_neg e]; exact hI.eq j (by omega)
  · intro j hj
    rw [getD_snocT, hI.len]
    by_cases e : j = k
    · rw [if_pos e, e, hT]
      refine hC.same ?_ ?_
      · rintro b ⟨h1, h2⟩
        exact hbl b h2 (fun e => by have := hlt b e; omega)
      · rintro b ⟨h1, h2⟩
        exact ⟨by omega, by omega, hne' b h2 (fun e => by have := hlt b e; omega)⟩
    · rw [if_neg e]
      refine (hI.ct j (by omega)).same ?_ ?_
      · rintro b ⟨h1, h2, h3⟩
        rw [hbl b (by omega) h3, kw.block b h2]
      · rintro b ⟨h1, h2, h3⟩
        exact ⟨h1, by omega, hne' b (by omega) h3⟩
  · exact Below.grown ((hI.kp.trans kw).alloc _) g7 (by rw [World.size_alloc]; omega) (fun b hb => (hlt b hb).1)
theorem CIt.rdT {ts : List (Int × List Nd)} {W wr wf w0 : World} {ta ta0 : Option Addr} {ct : Nat} {K : List (Int × Option Addr × Nat × Nat)} (hI : CIt ts W ts.length (.slice ta ts.length ct) wr K) (hs : ∀ b, W.heap.size ≤ b → wf.heap[b]? = wr.heap[b]?) (h0 : RdT w0 ta0 ts) : RdT wf ta ts := by
  intro j hj
  have ho : OwnT W.heap.size wf (.slice ta ts.length ct) K := hI.own.same (fun b hb => hs b (hI.own.block hb).1)
  obtain ⟨a', c', e, hc, hr⟩ := ho.shape
  simp only [Value.slice.injEq] at e
  obtain ⟨rfl, -, rfl⟩ := e
  obtain ⟨b, rfl, hb⟩ := hr j (by rw [hI.len]; exact hj)
  obtain ⟨b0, o0, na0, nc0, -, -, -, hn, -, hl, hf⟩ := h0 j hj
  obtain ⟨e1, e2, e3⟩ := hI.eq j hj
  have hC : CT wf (fun _ => True) _ _ _ := (hI.ct j hj).same (fun b hb => hs b hb.1) (fun _ _ => trivial)
  have c0 := hb 0 _ (by omega) rfl
  have c1 := hb 1 _ (by omega) rfl
  rw [e1] at c0
  rw [e2] at c1
  refine ⟨b, 0, _, _, rfl, by rw [Nat.zero_add]; exact c0, by rw [Nat.zero_add]; exact c1, hC.rdN hn, e3, hl, hf⟩
theorem fin_store (wr : World) (h : Nat) (u v0 v1 v2 v3 v4 x0 x1 x2 x3 x4 : Value) (y1 : wr.heap[h + 1]? = some (.cells #[x0, x1, x2, x3, x4] 52 (0, 0))) :
    ((((((wr.setCell ⟨h + 1 + 1, 4, none⟩ u).setCell ⟨h + 1, 0, none⟩ v0).setCell ⟨h + 1, 1, none⟩ v1).setCell ⟨h + 1, 2, none⟩ v2).setCell ⟨h + 1, 3, none⟩ v3).setCell ⟨h + 1, 4, none⟩ v4).heap[h + 1]? = some (.cells #[v0, v1, v2, v3, v4] 52 (0, 0)) ∧
    ∀ b, b ≠ h + 1 → b ≠ h + 1 + 1 → ((((((wr.setCell ⟨h + 1 + 1, 4, none⟩ u).setCell ⟨h + 1, 0, none⟩ v0).setCell ⟨h + 1, 1, none⟩ v1).setCell ⟨h + 1, 2, none⟩ v2).setCell ⟨h + 1, 3, none⟩ v3).setCell ⟨h + 1, 4, none⟩ v4).heap[b]? = wr.heap[b]? := by
  have a0 := (neq_set wr (h + 1 + 1) 4 u (h + 1) (by omega)).trans y1
  have a1 := heap_setCell_same _ (h + 1) 0 _ 52 v0 a0
  have a2 := heap_setCell_same _ (h + 1) 1 _ 52 v1 a1
  have a3 := heap_setCell_same _ (h + 1) 2 _ 52 v2 a2
  have a4 := heap_setCell_same _ (h + 1) 3 _ 52 v3 a3
  have a5 := heap_setCell_same _ (h + 1) 4 _ 52 v4 a4
  refine ⟨by simpa using a5, fun b h1 h2 => ?_⟩
  rw [neq_set _ _ _ _ b h1, neq_set _ _ _ _ b h1, neq_set _ _ _ _ b h1, neq_set _ _ _ _ b h1, neq_set _ _ _ _ b h1, neq_set _ _ _ _ b h2]
set_option maxRecDepth 100000 in
set_option maxHeartbeats 2000000 in
theorem rCopy_any (nm : ByteArray) (fa : Option Addr) (fs : List ByteArray) (cf : Nat) (N : Int) (ba : Option Addr) (base : List Int) (cb : Nat) (ta : Option Addr) (ts : List (Int × List Nd)) (ct : Nat) (w : World)
    (hf : RdS w fa fs) (hfl : fs.length ≤ 8796093022208) (hb : RdI w ba base) (hbl : base.length ≤ 17592186044416) (ht : RdT w ta ts) (htl : ts.length ≤ 4398046511104) (hts : ∀ j, j < ts.length → (ts.getD j (0, [])).2.length ≤ 1759218604441) :
    Calls Try.prog 28 #[ens nm fa fs.length cf N ba base.length cb ta ts.length ct] w fun e w' => ∃ fa' cf' ba' cb' ta' ct', e = .returned (ens nm fa' fs.length cf' N ba' base.length cb' ta' ts.length ct') ∧ RdS w' fa' fs ∧ fs.length ≤ cf' ∧ RdI w' ba' base ∧ base.length ≤ cb' ∧ RdT w' ta' ts ∧ ts.length ≤ ct' ∧ Keep w w' := by
  unfold ens
  obtain ⟨w1, hw1, k1, s1, r0, r1, r2⟩ := boxes3g w #[Value.string nm, Value.slice fa fs.length cf, Value.int IntKind.i64 N, Value.slice ba base.length cb, Value.slice ta ts.length ct] #[Value.string { data := #[] }, Value.slice none 0 0, Value.int IntKind.i64 0, Value.slice none 0 0, Value.slice none 0 0] #[Value.string nm, Value.slice fa fs.length cf, Value.int IntKind.i64 N, Value.slice ba base.length cb, Value.slice ta ts.length ct] 52 52 52
  have hf1 := hf.keep k1
  replace hw1 : Hid _ := hw1
  replace r0 : Hid _ := r0
  replace r1 : Hid _ := r1
  replace r2 : Hid _ := r2
  go_enter Try.func28, Try.ntmps28
  go_wp2_with (at_builtin; first | (rw [hw1.out]; refine wpList_copyS rfl _ _ rfl fs fa cf ?_ ?_ hf1 hfl ?_; rotate_left 2; intro vf w2 hO2 k2; obtain ⟨fa', cf', rfl, hcf, hrf⟩ := hO2.shape; have q0 := (k2.block _ (by omega)).trans r0.out; have q1 := (k2.block _ (by omega)).trans r1.out; have q2 := (k2.block _ (by omega)).trans r2.out; have fz := frozen_of_row w2 _ 1 _ 52 q2; have e3 := cell_of_row w2 _ 3 _ 52 (0, 0) q0; have e1 := cell_of_row w2 _ 1 _ 52 (0, 0) q2; simp at e3 e1; replace q0 : Hid _ := q0; replace q1 : Hid _ := q1; replace q2 : Hid _ := q2; clear hw1) | (have hq := set_out (i := 1) (u := .slice fa' fs.length cf') (k1.trans k2) (by omega) q0.out q1.out q2.out; refine wpList_copyB rfl _ _ rfl base ba cb ?_ ?_ (hb.keep hq.1) hbl ?_; rotate_left 2; intro vb w4 hO4 k4; obtain ⟨ba', cb', rfl, hcb, hrb⟩ := hO4.shape; have p0 := (k4.block _ (Array.getElem?_eq_some_iff.1 hq.2.1).1).trans hq.2.1; have p1 := (k4.block _ (Array.getElem?_eq_some_iff.1 hq.2.2.1).1).trans hq.2.2.1; have p2 := (k4.block _ (Array.getElem?_eq_some_iff.1 hq.2.2.2).1).trans hq.2.2.2; have fz4 := frozen_of_row w4 _ 3 _ 52 p2; have e4 := cell_of_row w4 _ 4 _ 52 (0, 0) p0; have e5 := cell_of_row w4 _ 3 _ 52 (0, 0) p2; simp at e4 e5; replace p0 : Hid _ := p0; replace p1 : Hid _ := p1; replace p2 : Hid _ := p2; replace hq : Hid _ := hq; clear e3 e1 fz))
  rotate_left 1
  · rfl
  · rfl
  · rfl
  · rfl
  have hq5 := set_out (i := 3) (u := .slice ba' base.length cb') (hq.out.1.trans k4) (by omega) p0.out p1.out p2.out
  have hs2 := k2.le
  have hs4 := k4.le
  rw [World.size_setCell] at hs4
  have hO5 : OwnS (w.heap.size + 3) (w4.setCell ⟨w.heap.size + 1 + 1, 3, none⟩ (.slice ba' base.length cb')) (.slice fa' fs.length cf') fs := by
    rw [s1] at hO2
    have h1 : OwnS (w.heap.size + 3) (w2.setCell ⟨w.heap.size + 1 + 1, 1, none⟩ (.slice fa' fs.length cf')) (.slice fa' fs.length cf') fs := hO2.same (fun b hb => neq_set w2 _ _ _ b (by have := (hO2.block hb).1; omega))
    have h2 := h1.keep k4
    exact h2.same (fun b hb => neq_set w4 _ _ _ b (by have := (h2.block hb).1; omega))
  have hO6 : OwnZ 2 (w.heap.size + 3) (w4.setCell ⟨w.heap.size + 1 + 1, 3, none⟩ (.slice ba' base.length cb')) (.slice ba' base.length cb') base := by
    rw [World.size_setCell] at hO4
    exact (hO4.same (fun b hb => neq_set w4 _ _ _ b (by have := (hO4.block hb).1; omega))).mono (by omega)
  clear hO2 hO4 hrf hrb p0 p1 p2 q0 q1 q2 hq r0 r1 r2 k4 k2 hf1 k1 s1 hs2 hs4 fz4 e4 e5
  generalize w4.setCell ⟨w.heap.size + 1 + 1, 3, none⟩ (.slice ba' base.length cb') = W at *
  obtain ⟨kW, z0, z1, z2⟩ := hq5
  have htW := ht.keep kW
  replace z0 : Hid _ := z0
  replace z1 : Hid _ := z1
  replace z2 : Hid _ := z2
  clear hb hf
  replace ht : Hid _ := ht
  go_loopw [5, 23] (fun v iv wr => ∃ (k : Nat) (K : List (Int × Option Addr × Nat × Nat)), k ≤ ts.length ∧ iv = .int .i64 k ∧ CIt ts W k v wr K) (fun _ iv _ => ts.length - (intOf iv).toNat)
  case atStart => exact ⟨0, [], by omega, rfl, rfl, fun j hj => by omega, OwnT.nil _ _, fun j hj => by omega, Keep.refl W⟩
  case round =>
    obtain ⟨k, K, hk, rfl, hI⟩ := hrel
    by_cases hkl : k < ts.length
    · have hkc : (k : Int) < (ts.length : Int) := by omega
      obtain ⟨b, o, na, nc, rfl, d0, d1, dn, dc, dl, df⟩ := (htW.keep hI.kp) k hkl
      have hln := hts k hkl
      obtain ⟨T, hT⟩ : ∃ T, ts.getD k (0, []) = T := ⟨_, rfl⟩
      have HT : Hid (ts.getD k (0, []) = T) := hT
      rw [hT] at d0 d1 dn dc dl df hln
      clear hT
      obtain ⟨out, L⟩ := T
      simp only at d0 d1 dn dc dl df hln
      have kx : Keep wr (wr.alloc (Obj.cells #[Value.int IntKind.i64 out, Value.slice na L.length nc] 24)) := (Keep.refl wr).alloc _
      have x0 : (wr.alloc (Obj.cells #[Value.int IntKind.i64 out, Value.slice na L.length nc] 24)).drew.cell? ⟨wr.heap.size, 0, none⟩ = some (.int .i64 out) := by
        have := cell_of_row _ _ 0 _ 24 (0, 0) (heap_alloc_new wr (Obj.cells #[Value.int IntKind.i64 out, Value.slice na L.length nc] 24))
        exact this
      have hNd := rNodes_any na nc L (wr.alloc (Obj.cells #[Value.int IntKind.i64 out, Value.slice na L.length nc] 24)).drew hln (dn.keep kx.drew)
      have hKl : K.length + 1 ≤ 4398046511104 := by have := hI.len; omega
      have kd : Keep wr (wr.alloc (Obj.cells #[Value.int IntKind.i64 out, Value.slice na L.length nc] 24)).drew := kx.drew
      go_wp2_with fail
      go_region_law (first
        | (refine step_appT (B := W.heap.size) rfl _ _ rfl K out an L.length cn _ (hI.own.keep (kd.trans k6)) (Nat.le_trans hI.kp.le (kd.trans k6).le) hKl rfl rfl ?_; intro v7 w7 hO7 g7 hv7)
        | (go_simp; go_wp2_with (go_at_call 60; refine hNd.mono ?_; rintro e w6 ⟨vn, rfl, ⟨K6, hN6⟩, k6⟩; obtain ⟨an, cn, rfl, hcn, hC6⟩ := hN6.ct; have x6 := k6.cell x0)))
      all_goals
        have hJ := hI.step HT.out (kd.trans k6) (hC6.same (fun _ _ => rfl) (fun b hb => ⟨by have h1 := hb.1; have h2 := kd.le; omega, hb.2⟩)) hcn hO7 g7 hv7
        clear hO7 g7 hv7 hC6 hN6 hNd x0 x6
        go_simp
        go_wp2_with fail
        go_roundw
        case rel => exact ⟨k + 1, _, by omega, by go_num, hJ⟩
        case measure => simp [intOf]; omega
    · have hkc : ¬ (k : Int) < (ts.length : Int) := by omega
      obtain rfl : k = ts.length := by omega
      obtain ⟨ta', ct', rfl, hct, hrt⟩ := hI.own.shape
      rw [hI.len] at hct ⊢
      have y1 := (hI.kp.block _ (Array.getElem?_eq_some_iff.1 z1.out).1).trans z1.out
      have y2 := (hI.kp.block _ (Array.getElem?_eq_some_iff.1 z2.out).1).trans z2.out
      simp at y2
      have fz := frozen_of_row wr _ 4 _ 52 y2
      have g0 := cell_of_row wr _ 0 _ 52 (0, 0) y2
      have g1 := cell_of_row wr _ 1 _ 52 (0, 0) y2
      have g2 := cell_of_row wr _ 2 _ 52 (0, 0) y2
      have g3 := cell_of_row wr _ 3 _ 52 (0, 0) y2
      have g4 := cell_of_row wr _ 4 _ 52 (0, 0) y2
      simp at g0 g1 g2 g3 g4
      have m0 := cell_of_row wr _ 0 _ 52 (0, 0) y1
      have m1 := cell_of_row wr _ 1 _ 52 (0, 0) y1
      have m2 := cell_of_row wr _ 2 _ 52 (0, 0) y1
      have m3 := cell_of_row wr _ 3 _ 52 (0, 0) y1
      have m4 := cell_of_row wr _ 4 _ 52 (0, 0) y1
      simp at m0 m1 m2 m3 m4
      have n0 := frozen_of_row wr _ 0 _ 52 y1
      have n1 := frozen_of_row wr _ 1 _ 52 y1
      have n2 := frozen_of_row wr _ 2 _ 52 y1
      have n3 := frozen_of_row wr _ 3 _ 52 y1
      have n4 := frozen_of_row wr _ 4 _ 52 y1
      replace y1 : Hid _ := y1
      replace y2 : Hid _ := y2
      go_wp2_with fail
      obtain ⟨F2, F1⟩ := fin_store wr w.heap.size (.slice ta' ts.length ct') (.string nm) (.slice fa' fs.length cf') (.int .i64 N) (.slice ba' base.length cb') (.slice ta' ts.length ct') _ _ _ _ _ y1.out
      have kf : Keep w _ := ((((((kW.trans hI.kp).setCell (p := ⟨w.heap.size + 1 + 1, 4, none⟩) (by show _ ≤ w.heap.size + 1 + 1; omega) (.slice ta' ts.length ct')).setCell (p := ⟨w.heap.size + 1, 0, none⟩) (by show _ ≤ w.heap.size + 1; omega) (.string nm)).setCell (p := ⟨w.heap.size + 1, 1, none⟩) (by show _ ≤ w.heap.size + 1; omega) (.slice fa' fs.length cf')).setCell (p := ⟨w.heap.size + 1, 2, none⟩) (by show _ ≤ w.heap.size + 1; omega) (.int .i64 N)).setCell (p := ⟨w.heap.size + 1, 3, none⟩) (by show _ ≤ w.heap.size + 1; omega) (.slice ba' base.length cb')).setCell (p := ⟨w.heap.size + 1, 4, none⟩) (by show _ ≤ w.heap.size + 1; omega) (.slice ta' ts.length ct')
      have hWs := (Array.getElem?_eq_some_iff.1 z2.out).1
      clear fz g0 g1 g2 g3 g4 m0 m1 m2 m3 m4 n0 n1 n2 n3 n4 y1 y2
      try simp only [Exit.inBlock, Exit.then]
      refine bodyPost_ret (results_cell_row rfl _ _ (w.heap.size + 1) 52 _ (0, 0) _ rfl F2 Try.underlying52 rfl (by kernel_rfl)) rfl ?_
      have o5 := (hO5.keep hI.kp)
      have o5 := o5.same (fun b hb => F1 b (by have := (o5.block hb).1; omega) (by have := (o5.block hb).1; omega))
      have o6 := (hO6.keep hI.kp)
      have o6 := o6.same (fun b hb => F1 b (by have := (o6.block hb).1; omega) (by have := (o6.block hb).1; omega))
      obtain ⟨f1, f2, ef, hf1, hf2⟩ := o5.shape
      obtain ⟨b1, b2, eb, hb1, hb2⟩ := o6.shape
      simp only [Value.slice.injEq] at ef eb
      obtain ⟨rfl, -, rfl⟩ := ef
      obtain ⟨rfl, -, rfl⟩ := eb
      have hI' : CIt ts W ts.length (.slice ta' ts.length ct') wr K := by have h := hI; rw [hI.len] at h; exact h
      exact ⟨_, _, _, _, _, _, rfl, hf2, hf1, hb2, hb1, hI'.rdT (fun b hb => F1 b (by omega) (by omega)) ht.out, hct, kf⟩
end Go.Proofs.Ytbchinfmdioijaa
