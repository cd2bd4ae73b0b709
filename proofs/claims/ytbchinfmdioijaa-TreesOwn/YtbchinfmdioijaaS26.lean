import Derived.Test.YtbchinfmdioijaaS23
import Derived.Test.YtbchinfmdioijaaS17
import Derived.Test.YtbchinfmdioijaaS20
set_option linter.unusedVariables false
set_option linter.unusedSimpArgs false
namespace Go.Proofs.Ytbchinfmdioijaa
open Go.RowKit Go.Shelf
/-- What the making of an ensemble's trees holds between two rounds: the row lies in the last field of the box B. -/
structure CJt (us : List (Int × List Nd)) (w2 W : World) (B : Nat) (h0 h1 h2 h3 : Value) (k : Nat) (v : Value) (wr : World) (K : List (Int × Option Addr × Nat × Nat)) : Prop where
  len : K.length = k
  eq : ∀ j, j < k → (K.getD j tt0).1 = (us.getD j (0, [])).1 ∧ (K.getD j tt0).2.2.1 = (us.getD j (0, [])).2.length ∧ (us.getD j (0, [])).2.length ≤ (K.getD j tt0).2.2.2
  own : OwnT W.heap.size wr v K
  ct : ∀ j, j < k → CT wr (fun b => W.heap.size ≤ b ∧ b < wr.heap.size ∧ v.ownBlock ≠ some b) (K.getD j tt0).2.1 (K.getD j tt0).2.2.2 (us.getD j (0, [])).2
  kp : Keep w2 wr
  sz : W.heap.size ≤ wr.heap.size
  bx : wr.heap[B]? = some (.cells #[h0, h1, h2, h3, v] 52 (0, 0))
  low : ∀ b, b < W.heap.size → b ≠ B → wr.heap[b]? = W.heap[b]?
theorem CJt.step {us : List (Int × List Nd)} {w2 W : World} {B : Nat} {h0 h1 h2 h3 : Value} {k : Nat} {v : Value} {wr : World} {K : List (Int × Option Addr × Nat × Nat)} (hI : CJt us w2 W B h0 h1 h2 h3 k v wr K) (hB : B < W.heap.size) (hB2 : w2.heap.size ≤ B) {out : Int} {L : List Nd} {an : Option Addr} {cn : Nat} {w6 w7 : World} {v' : Value} {ob : Obj}
    (hT : us.getD k (0, []) = (out, L)) (kw : Keep wr w6) (hC : CT w6 (fun b => wr.heap.size ≤ b ∧ b < w6.heap.size) an cn L) (hc : L.length ≤ cn) (hO : OwnT W.heap.size w7 v' (K ++ [(out, an, L.length, cn)])) (g7 : (w6.alloc ob).grownBy w7 v.ownBlock) (hv : v'.ownBlock = v.ownBlock ∨ v'.ownBlock = some (w6.heap.size + 1)) :
    CJt us w2 W B h0 h1 h2 h3 (k + 1) v' (w7.setCell ⟨B, 4, none⟩ v') (K ++ [(out, an, L.length, cn)]) := by
  have hlt : ∀ b, v.ownBlock = some b → W.heap.size ≤ b ∧ b < wr.heap.size := by
    intro b hb
    obtain ⟨h1, cur, hc⟩ := hI.own.block hb
    exact ⟨h1, (Array.getElem?_eq_some_iff.1 hc).1⟩
  have hle := kw.le
  have hle0 := hI.sz
  have ka : Keep w6 (w6.alloc ob) := (Keep.refl w6).alloc _
  have hsz := g7.size
  rw [World.size_alloc] at hsz
  have hne0 : v.ownBlock ≠ some B := fun e => by have := (hlt B e).1; omega
  have hbl : ∀ b, b < w6.heap.size → v.ownBlock ≠ some b → w7.heap[b]? = w6.heap[b]? := fun b hb hne => (g7.block b (by rw [World.size_alloc]; omega) (fun e => hne e.symm)).trans (ka.block b hb)
  have hbs : ∀ b, b ≠ B → (w7.setCell ⟨B, 4, none⟩ v').heap[b]? = w7.heap[b]? := fun b hb => neq_set w7 _ _ _ b hb
  have hss : (w7.setCell ⟨B, 4, none⟩ v').heap.size = w7.heap.size := by simp
  have hne' : ∀ b, b < w6.heap.size → v.ownBlock ≠ some b → v'.ownBlock ≠ some b := by
    intro b hb hne e
    rcases hv with h | h
    · rw [h] at e; exact hne e
    · rw [h] at e; simp only [Option.some.injEq] at e; omega
  refine ⟨by rw [List.length_append, hI.len]; rfl, ?_, ?_, ?_, ?_, ?_, ?_, ?_⟩
  · intro j hj
    rw [getD_snocT, hI.len]
    by_cases e : j = k
    · rw [if_pos e, e, hT]; exact ⟨rfl, rfl, hc⟩
    · rw [if_neg e]; exact hI.eq j (by omega)
  · exact hO.same (fun b hb => hbs b (by have := (hO.block hb).1; omega))
  · intro j hj
    rw [getD_snocT, hI.len]
    by_cases e : j = k
    · rw [if_pos e, e, hT]
      refine hC.same ?_ ?_
      · rintro b ⟨h1, h2⟩
        rw [hbs b (by omega)]
        exact hbl b h2 (fun e => by have := hlt b e; omega)
      · rintro b ⟨h1, h2⟩
        exact ⟨by omega, by omega, hne' b h2 (fun e => by have := hlt b e; omega)⟩
    · rw [if_neg e]
      refine (hI.ct j (by omega)).same ?_ ?_
      · rintro b ⟨h1, h2, h3⟩
        rw [hbs b (by omega), hbl b (by omega) h3, kw.block b h2]
      · rintro b ⟨h1, h2, h3⟩
        exact ⟨h1, by omega, hne' b (by omega) h3⟩
  · exact Keep.setCell (Below.grown ((hI.kp.trans kw).alloc _) g7 (by rw [World.size_alloc]; have := hI.kp.le; omega) (fun b hb => by have := (hlt b hb).1; omega)) (p := ⟨B, 4, none⟩) hB2 _
  · omega
  · have e1 : w7.heap[B]? = some (.cells #[h0, h1, h2, h3, v] 52 (0, 0)) := (hbl B (by omega) hne0).trans ((kw.block B (by omega)).trans hI.bx)
    have := heap_setCell_same w7 B 4 _ 52 v' e1
    simpa using this
  · intro b hb hbB
    rw [hbs b hbB, hbl b (by omega) (fun e => by have := (hlt b e).1; omega), kw.block b (by omega)]
    exact hI.low b hb hbB
theorem CJt.rdT {us : List (Int × List Nd)} {w2 W wr wf : World} {B : Nat} {h0 h1 h2 h3 : Value} {ta : Option Addr} {ct : Nat} {K : List (Int × Option Addr × Nat × Nat)} (hI : CJt us w2 W B h0 h1 h2 h3 us.length (.slice ta us.length ct) wr K) (hs : ∀ b, W.heap.size ≤ b → wf.heap[b]? = wr.heap[b]?)
    (hn : ∀ j, j < us.length → ∃ w0 a0, RdN w0 a0 (us.getD j (0, [])).2 ∧ (us.getD j (0, [])).2.length ≤ 2199023255552 ∧ (-9223372036854775808 ≤ (us.getD j (0, [])).1 ∧ (us.getD j (0, [])).1 ≤ 9223372036854775807)) : RdT wf ta us ∧ us.length ≤ ct := by
  have ho : OwnT W.heap.size wf (.slice ta us.length ct) K := hI.own.same (fun b hb => hs b (hI.own.block hb).1)
  obtain ⟨a', c', e, hc, hr⟩ := ho.shape
  simp only [Value.slice.injEq] at e
  obtain ⟨rfl, -, rfl⟩ := e
  rw [hI.len] at hc
  refine ⟨?_, hc⟩
  intro j hj
  obtain ⟨b, rfl, hb⟩ := hr j (by rw [hI.len]; exact hj)
  obtain ⟨w0, a0, hn, hl, hf⟩ := hn j hj
  obtain ⟨e1, e2, e3⟩ := hI.eq j hj
  have hC : CT wf (fun _ => True) _ _ _ := (hI.ct j hj).same (fun b hb => hs b hb.1) (fun _ _ => trivial)
  have c0 := hb 0 _ (by omega) rfl
  have c1 := hb 1 _ (by omega) rfl
  rw [e1] at c0
  rw [e2] at c1
  exact ⟨b, 0, _, _, rfl, by rw [Nat.zero_add]; exact c0, by rw [Nat.zero_add]; exact c1, hC.rdN hn, e3, hl, hf⟩
end Go.Proofs.Ytbchinfmdioijaa
set_option linter.unusedVariables false
set_option linter.unusedSimpArgs false
namespace Go.Proofs.Ytbchinfmdioijaa
open Go.RowKit Go.Shelf
set_option maxRecDepth 100000 in
set_option maxHeartbeats 2000000 in
theorem Copy_any (nm : ByteArray) (fa : Option Addr) (fs : List ByteArray) (cf : Nat) (N : Int) (ba : Option Addr) (base : List Int) (cb : Nat) (ta : Option Addr) (ts : List (Int × List Nd)) (ct : Nat) (w : World)
    (hnm : nm.size ≤ 281474976710656) (hf : RdS w fa fs) (hfz : ∀ j, j < fs.length → (fs.getD j ByteArray.empty).size ≤ 281474976710656) (hfl : fs.length ≤ 8796093022208) (hb : RdI w ba base) (hbc : base.length ≤ cb) (hbl : base.length ≤ 17592186044416) (ht : RdT w ta ts) (htl : ts.length ≤ 4398046511104) (hts : ∀ j, j < ts.length → (ts.getD j (0, [])).2.length ≤ 1759218604441) :
    Calls Try.prog 36 #[ens nm fa fs.length cf N ba base.length cb ta ts.length ct] w fun e w' => ∃ fa' cf' ba' cb' ta' ct', e = .returned (ens nm fa' fs.length cf' N ba' base.length cb' ta' ts.length ct') ∧ RdS w' fa' fs ∧ fs.length ≤ cf' ∧ RdI w' ba' base ∧ base.length ≤ cb' ∧ RdT w' ta' ts ∧ ts.length ≤ ct' ∧ Keep w w' := by
  have hH := fun (wx : World) (k : Keep w wx) => copyHead_any nm fa fs cf N ba base cb ta ts.length ct wx hnm (hf.keep k) hfz hfl (hb.keep k) hbc hbl
  unfold ens at hH ⊢
  obtain ⟨w1, hw1, k1, s1, r0, r1⟩ := boxes2n w #[Value.string nm, Value.slice fa fs.length cf, Value.int IntKind.i64 N, Value.slice ba base.length cb, Value.slice ta ts.length ct] #[Value.string { data := #[] }, Value.slice none 0 0, Value.int IntKind.i64 0, Value.slice none 0 0, Value.slice none 0 0] 52 52
  have hz0 : w.heap.size < w1.heap.size := (Array.getElem?_eq_some_iff.1 r0).1
  have hz1 : w.heap.size + 1 < w1.heap.size := (Array.getElem?_eq_some_iff.1 r1).1
  replace hw1 : Hid _ := hw1
  replace r0 : Hid _ := r0
  replace r1 : Hid _ := r1
  go_enter Try.func36, Try.ntmps36
  go_wp2_with fail
  rw [hw1.out]
  refine (hH _ k1).mono ?_
  rintro e w2 ⟨fa', cf', ba', cb', rfl, oF, oB, k2⟩
  have q0 := (k2.block _ hz0).trans r0.out
  have q1 := (k2.block _ hz1).trans r1.out
  have kb : Keep w2 (w2.alloc (Obj.cells #[Value.string nm, Value.slice fa' fs.length cf', Value.int IntKind.i64 N, Value.slice ba' base.length cb', Value.slice none 0 0] 52)) := (Keep.refl w2).alloc _
  have tb : (w2.alloc (Obj.cells #[Value.string nm, Value.slice fa' fs.length cf', Value.int IntKind.i64 N, Value.slice ba' base.length cb', Value.slice none 0 0] 52)).heap[w2.heap.size]? = some (Obj.cells #[Value.string nm, Value.slice fa' fs.length cf', Value.int IntKind.i64 N, Value.slice ba' base.length cb', Value.slice none 0 0] 52 (0, 0)) := heap_alloc_new w2 _
  have hz2 : w.heap.size + 1 < w2.heap.size := (Array.getElem?_eq_some_iff.1 q1).1
  have p0 := (kb.block _ (by omega)).trans q0
  have x4 := cell_of_row _ _ 4 _ 52 (0, 0) p0
  simp only [List.getElem?_toArray, List.getElem?_cons_zero, List.getElem?_cons_succ] at x4
  have k02 := k1.trans k2
  clear hH
  replace q0 : Hid _ := q0
  replace q1 : Hid _ := q1
  replace tb : Hid _ := tb
  replace p0 : Hid _ := p0
  go_wp2_with fail
  obtain ⟨W, hW⟩ : ∃ W, w2.alloc (Obj.cells #[Value.string nm, Value.slice fa' fs.length cf', Value.int IntKind.i64 N, Value.slice ba' base.length cb', Value.slice none 0 0] 52) = W := ⟨_, rfl⟩
  have sW : W.heap.size = w2.heap.size + 1 := by rw [← hW]; simp
  rw [hW] at kb tb ⊢
  have htW := ht.keep (k02.trans kb)
  clear hW p0 x4
  go_loopw [11] (fun iv wr => ∃ (k : Nat) (v : Value) (K : List (Int × Option Addr × Nat × Nat)), k ≤ ts.length ∧ iv = .int .i64 k ∧ CJt ts w2 W w2.heap.size (.string nm) (.slice fa' fs.length cf') (.int .i64 N) (.slice ba' base.length cb') k v wr K) (fun iv _ => ts.length - (intOf iv).toNat)
  case atStart => exact ⟨0, .slice none 0 0, [], by omega, rfl, rfl, fun j hj => by omega, OwnT.nil _ _, fun j hj => by omega, kb, Nat.le_refl _, tb.out, fun b _ _ => rfl⟩
  case round =>
    obtain ⟨k, v, K, hk, rfl, hI⟩ := hrel
    have kwr : Keep w wr := k02.trans hI.kp
    by_cases hkl : k < ts.length
    · have hkc : (k : Int) < (ts.length : Int) := by omega
      obtain ⟨b, o, na, nc, rfl, d0, d1, dn, dc, dl, df⟩ := (ht.keep kwr) k hkl
      have hln := hts k hkl
      obtain ⟨T, hT⟩ : ∃ T, ts.getD k (0, []) = T := ⟨_, rfl⟩
      have HT : Hid (ts.getD k (0, []) = T) := hT
      rw [hT] at d0 d1 dn dc dl df hln
      clear hT
      obtain ⟨out, L⟩ := T
      simp only at d0 d1 dn dc dl df hln
      have kx : Keep wr (wr.alloc (Obj.cells #[Value.int IntKind.i64 out, Value.slice na L.length nc] 24)) := (Keep.refl wr).alloc _
      have kd : Keep wr (wr.alloc (Obj.cells #[Value.int IntKind.i64 out, Value.slice na L.length nc] 24)).drew := kx.drew
      have hzB : w2.heap.size < wr.heap.size := (Array.getElem?_eq_some_iff.1 hI.bx).1
      have bx1 : (wr.alloc (Obj.cells #[Value.int IntKind.i64 out, Value.slice na L.length nc] 24)).drew.heap[w2.heap.size]? = _ := (kd.block _ hzB).trans hI.bx
      have y0 : (wr.alloc (Obj.cells #[Value.int IntKind.i64 out, Value.slice na L.length nc] 24)).drew.cell? ⟨wr.heap.size, 0, none⟩ = some (.int .i64 out) := by
        have := cell_of_row _ _ 0 _ 24 (0, 0) (heap_alloc_new wr (Obj.cells #[Value.int IntKind.i64 out, Value.slice na L.length nc] 24))
        exact this
      have y1 : (wr.alloc (Obj.cells #[Value.int IntKind.i64 out, Value.slice na L.length nc] 24)).drew.cell? ⟨wr.heap.size, 1, none⟩ = some (.slice na L.length nc) := by
        have := cell_of_row _ _ 1 _ 24 (0, 0) (heap_alloc_new wr (Obj.cells #[Value.int IntKind.i64 out, Value.slice na L.length nc] 24))
        exact this
      have c4 : (wr.alloc (Obj.cells #[Value.int IntKind.i64 out, Value.slice na L.length nc] 24)).drew.cell? ⟨w2.heap.size, 4, none⟩ = some v := by rw [cell_of_row _ _ 4 _ 52 (0, 0) bx1]; rfl
      have hCT := copyTree_any na nc out L (wr.alloc (Obj.cells #[Value.int IntKind.i64 out, Value.slice na L.length nc] 24)).drew hln (dn.keep kd)
      have hKl : K.length + 1 ≤ 4398046511104 := by have := hI.len; omega
      replace bx1 : Hid _ := bx1
      go_wp2_with fail
      go_region_law (first
        | (refine step_appT (B := W.heap.size) rfl _ _ rfl K out an L.length cn _ (hI.own.keep (kd.trans k6)) (Nat.le_trans hI.sz (kd.trans k6).le) hKl rfl rfl ?_; intro v7 w7 hO7 g7 hv7; obtain ⟨a7, c7, rfl, hc7, -⟩ := hO7.shape; have bx7 : w7.heap[w2.heap.size]? = some (.cells #[.string nm, .slice fa' fs.length cf', .int .i64 N, .slice ba' base.length cb', v] 52 (0, 0)) := (g7.block _ (by rw [World.size_alloc]; have := (kd.trans k6).le; omega) (fun e => by have := (hI.own.block e.symm).1; omega)).trans (((kd.trans k6).alloc _).block _ hzB |>.trans hI.bx); have z4 := cell_of_row _ _ 4 _ 52 (0, 0) bx7; have f4 := frozen_of_row _ _ 4 _ 52 bx7; simp only [List.getElem?_toArray, List.getElem?_cons_zero, List.getElem?_cons_succ] at z4; replace bx7 : Hid _ := bx7)
        | (go_simp; go_wp2_with (go_at_call 67; refine hCT.mono ?_; rintro e w6 ⟨an, cn, rfl, hcn, hC6, k6⟩; have c46 := k6.cell c4; have c47 := fun ob => (k6.alloc ob).cell c4; have y06 := k6.cell y0; have y16 := k6.cell y1)))
      all_goals
        have hJ := hI.step (by omega) (Nat.le_refl _) HT.out (kd.trans k6) (hC6.same (fun _ _ => rfl) (fun b hb => ⟨by have h1 := hb.1; have h2 := kd.le; omega, hb.2⟩)) hcn hO7 g7 hv7
        rw [show (K ++ [(out, an, L.length, cn)]).length = K.length + 1 by simp] at hJ
        clear hO7 g7 hv7 hC6 hCT
        go_simp
        go_wp2_with fail
        exact ⟨⟨k + 1, _, _, by omega, by go_num, hJ⟩, by simp [intOf]; omega⟩
    · have hkc : ¬ (k : Int) < (ts.length : Int) := by omega
      obtain rfl : k = ts.length := by omega
      obtain ⟨ta', ct', rfl, hct, -⟩ := hI.own.shape
      have hI' : CJt ts w2 W w2.heap.size (.string nm) (.slice fa' fs.length cf') (.int .i64 N) (.slice ba' base.length cb') ts.length (.slice ta' ts.length ct') wr K := by have h := hI; rw [hI.len] at h; exact h
      rw [hI.len] at hct
      have bxc := hI'.bx
      have m1 : wr.heap[w.heap.size + 1]? = _ := (hI.kp.block _ hz2).trans q1.out
      have g0 := cell_of_row wr _ 0 _ 52 (0, 0) bxc
      have g1 := cell_of_row wr _ 1 _ 52 (0, 0) bxc
      have g2 := cell_of_row wr _ 2 _ 52 (0, 0) bxc
      have g3 := cell_of_row wr _ 3 _ 52 (0, 0) bxc
      have g4 := cell_of_row wr _ 4 _ 52 (0, 0) bxc
      have y0 := cell_of_row wr _ 0 _ 52 (0, 0) m1
      have y1 := cell_of_row wr _ 1 _ 52 (0, 0) m1
      have y2 := cell_of_row wr _ 2 _ 52 (0, 0) m1
      have y3 := cell_of_row wr _ 3 _ 52 (0, 0) m1
      have y4 := cell_of_row wr _ 4 _ 52 (0, 0) m1
      have f0 := frozen_of_row wr _ 0 _ 52 m1
      have f1 := frozen_of_row wr _ 1 _ 52 m1
      have f2 := frozen_of_row wr _ 2 _ 52 m1
      have f3 := frozen_of_row wr _ 3 _ 52 m1
      have f4 := frozen_of_row wr _ 4 _ 52 m1
      simp only [List.getElem?_toArray, List.getElem?_cons_zero, List.getElem?_cons_succ] at g0 g1 g2 g3 g4 y0 y1 y2 y3 y4
      replace m1 : Hid _ := m1
      replace bxc : Hid _ := bxc
      go_wp2_with fail
      obtain ⟨F2, F1⟩ := store5 wr (w.heap.size + 1) 52 _ _ _ _ _ (.string nm) (.slice fa' fs.length cf') (.int .i64 N) (.slice ba' base.length cb') (.slice ta' ts.length ct') m1.out
      try simp only [Exit.inBlock, Exit.then]
      refine bodyPost_ret (results_cell_row rfl _ _ (w.heap.size + 1) 52 _ (0, 0) _ rfl F2 Try.underlying52 rfl (by kernel_rfl)) rfl ?_
      have hk12 := k1.le
      have oF' := oF.mono (B' := w.heap.size) (by have := k1.le; omega)
      have lowb : ∀ g, w1.heap.size ≤ g → g < w2.heap.size → wr.heap[g]? = w2.heap[g]? := fun g h1 h2 => hI.kp.block g h2
      have oF2 := oF.same (w' := (((((wr.setCell ⟨w.heap.size + 1, 0, none⟩ (.string nm)).setCell ⟨w.heap.size + 1, 1, none⟩ (.slice fa' fs.length cf')).setCell ⟨w.heap.size + 1, 2, none⟩ (.int .i64 N)).setCell ⟨w.heap.size + 1, 3, none⟩ (.slice ba' base.length cb')).setCell ⟨w.heap.size + 1, 4, none⟩ (.slice ta' ts.length ct'))) (fun g hg => by
        obtain ⟨h1, c, h2⟩ := oF.block hg
        rw [F1 g (by omega)]
        exact lowb g h1 (Array.getElem?_eq_some_iff.1 h2).1)
      have oB2 := oB.same (w' := (((((wr.setCell ⟨w.heap.size + 1, 0, none⟩ (.string nm)).setCell ⟨w.heap.size + 1, 1, none⟩ (.slice fa' fs.length cf')).setCell ⟨w.heap.size + 1, 2, none⟩ (.int .i64 N)).setCell ⟨w.heap.size + 1, 3, none⟩ (.slice ba' base.length cb')).setCell ⟨w.heap.size + 1, 4, none⟩ (.slice ta' ts.length ct'))) (fun g hg => by
        obtain ⟨h1, c, h2⟩ := oB.block hg
        rw [F1 g (by omega)]
        exact lowb g h1 (Array.getElem?_eq_some_iff.1 h2).1)
      obtain ⟨_, _, eF, hF1, hF2⟩ := oF2.shape
      obtain ⟨_, _, eB, hB1, hB2⟩ := oB2.shape
      simp only [Value.slice.injEq] at eF eB
      obtain ⟨rfl, -, rfl⟩ := eF
      obtain ⟨rfl, -, rfl⟩ := eB
      have hTT := hI'.rdT (wf := (((((wr.setCell ⟨w.heap.size + 1, 0, none⟩ (.string nm)).setCell ⟨w.heap.size + 1, 1, none⟩ (.slice fa' fs.length cf')).setCell ⟨w.heap.size + 1, 2, none⟩ (.int .i64 N)).setCell ⟨w.heap.size + 1, 3, none⟩ (.slice ba' base.length cb')).setCell ⟨w.heap.size + 1, 4, none⟩ (.slice ta' ts.length ct'))) (fun g hg => F1 g (by omega)) (fun j hj => by
        obtain ⟨_, _, na, _, _, _, _, hn, _, hl, hf⟩ := ht j hj
        exact ⟨w, na, hn, hl, hf⟩)
      refine ⟨_, _, _, _, _, _, rfl, hF2, hF1, hB2, hB1, hTT.1, hTT.2, ?_⟩
      exact ((((kwr.setCell (p := ⟨w.heap.size + 1, 0, none⟩) (by show w.heap.size ≤ w.heap.size + 1; omega) _).setCell (p := ⟨w.heap.size + 1, 1, none⟩) (by show w.heap.size ≤ w.heap.size + 1; omega) _).setCell (p := ⟨w.heap.size + 1, 2, none⟩) (by show w.heap.size ≤ w.heap.size + 1; omega) _).setCell (p := ⟨w.heap.size + 1, 3, none⟩) (by show w.heap.size ≤ w.heap.size + 1; omega) _).setCell (p := ⟨w.heap.size + 1, 4, none⟩) (by show w.heap.size ≤ w.heap.size + 1; omega) _
end Go.Proofs.Ytbchinfmdioijaa
set_option linter.unusedVariables false
set_option linter.unusedSimpArgs false
namespace Go.Proofs.Ytbchinfmdioijaa
open Go.RowKit Go.Shelf
/-- The first tree's fault. -/
def mdE : List (Int × List Nd) → Int
  | [] => 0
  | t :: ts => if shE t.2 = 0 then mdE ts else shE t.2
/-- The trees numbered anew. -/
def mdT (ts : List (Int × List Nd)) : List (Int × List Nd) := ts.map (fun t => (cnoO t.2 t.1, cnoN t.2))
theorem mdT_at {ts : List (Int × List Nd)} {k : Nat} (h : k < ts.length) {out : Int} {L : List Nd} (hT : ts.getD k (0, []) = (out, L)) : (mdT ts).getD k (0, []) = (cnoO L out, cnoN L) := by
  have e : ts[k] = (out, L) := by simpa [List.getD, h] using hT
  simp [mdT, List.getD, h, e]
theorem mdE_ok {ts : List (Int × List Nd)} {k : Nat} (h : k < ts.length) {out : Int} {L : List Nd} (hT : ts.getD k (0, []) = (out, L)) (hE : shE L = 0) : mdE (ts.drop k) = mdE (ts.drop (k + 1)) := by
  rw [drop_one ts k (0, []) h, hT, mdE, if_pos hE]
theorem mdE_bad {ts : List (Int × List Nd)} {k : Nat} (h : k < ts.length) {out : Int} {L : List Nd} (hT : ts.getD k (0, []) = (out, L)) (hE : shE L ≠ 0) : mdE (ts.drop k) = shE L := by
  rw [drop_one ts k (0, []) h, hT, mdE, if_neg hE]
set_option maxRecDepth 100000 in
set_option maxHeartbeats 2000000 in
theorem Model_any (nm : ByteArray) (fa : Option Addr) (fs : List ByteArray) (cf : Nat) (N : Int) (ba : Option Addr) (base : List Int) (cb : Nat) (ta : Option Addr) (ts : List (Int × List Nd)) (ct : Nat) (w : World)
    (hnm : nm.size ≤ 281474976710656) (hf : RdS w fa fs) (hfz : ∀ j, j < fs.length → (fs.getD j ByteArray.empty).size ≤ 281474976710656) (hfl : fs.length ≤ 8796093022208) (hb : RdI w ba base) (hbc : base.length ≤ cb) (hbl : base.length ≤ 17592186044416) (ht : RdT w ta ts) (htl : ts.length ≤ 4398046511104) :
    Calls Try.prog 33 #[ens nm fa fs.length cf N ba base.length cb ta ts.length ct] w fun e w' => ((mdE ts = 0 ∧ ∃ fa' cf' ba' cb' ta' ct', e = .returned (.tuple #[ens nm fa' fs.length cf' N ba' base.length cb' ta' ts.length ct', .int .i64 0]) ∧ RdS w' fa' fs ∧ fs.length ≤ cf' ∧ RdI w' ba' base ∧ base.length ≤ cb' ∧ RdT w' ta' (mdT ts) ∧ ts.length ≤ ct') ∨ (mdE ts ≠ 0 ∧ e = .returned (.tuple #[ens ⟨#[]⟩ none 0 0 0 none 0 0 none 0 0, .int .i64 (mdE ts)]))) ∧ Keep w w' := by
  have hH := fun (wx : World) (k : Keep w wx) => copyHead_any nm fa fs cf N ba base cb ta ts.length ct wx hnm (hf.keep k) hfz hfl (hb.keep k) hbc hbl
  unfold ens at hH ⊢
  have hml : (mdT ts).length = ts.length := by simp [mdT]
  obtain ⟨w1, hw1, k1, s1, r0, r1⟩ := boxes2n w #[Value.string nm, Value.slice fa fs.length cf, Value.int IntKind.i64 N, Value.slice ba base.length cb, Value.slice ta ts.length ct] #[Value.string { data := #[] }, Value.slice none 0 0, Value.int IntKind.i64 0, Value.slice none 0 0, Value.slice none 0 0] 52 52
  have hz0 : w.heap.size < w1.heap.size := (Array.getElem?_eq_some_iff.1 r0).1
  have hz1 : w.heap.size + 1 < w1.heap.size := (Array.getElem?_eq_some_iff.1 r1).1
  replace hw1 : Hid _ := hw1
  replace r0 : Hid _ := r0
  replace r1 : Hid _ := r1
  go_enter Try.func33, Try.ntmps33
  go_wp2_with fail
  rw [hw1.out]
  refine (hH _ k1).mono ?_
  rintro e w2 ⟨fa', cf', ba', cb', rfl, oF, oB, k2⟩
  have q0 := (k2.block _ hz0).trans r0.out
  have q1 := (k2.block _ hz1).trans r1.out
  have kb : Keep w2 (w2.alloc (Obj.cells #[Value.string nm, Value.slice fa' fs.length cf', Value.int IntKind.i64 N, Value.slice ba' base.length cb', Value.slice none 0 0] 52)) := (Keep.refl w2).alloc _
  have tb : (w2.alloc (Obj.cells #[Value.string nm, Value.slice fa' fs.length cf', Value.int IntKind.i64 N, Value.slice ba' base.length cb', Value.slice none 0 0] 52)).heap[w2.heap.size]? = some (Obj.cells #[Value.string nm, Value.slice fa' fs.length cf', Value.int IntKind.i64 N, Value.slice ba' base.length cb', Value.slice none 0 0] 52 (0, 0)) := heap_alloc_new w2 _
  have hz2 : w.heap.size + 1 < w2.heap.size := (Array.getElem?_eq_some_iff.1 q1).1
  have p0 := (kb.block _ (by omega)).trans q0
  have x4 := cell_of_row _ _ 4 _ 52 (0, 0) p0
  simp only [List.getElem?_toArray, List.getElem?_cons_zero, List.getElem?_cons_succ] at x4
  have k02 := k1.trans k2
  clear hH
  replace q0 : Hid _ := q0
  replace q1 : Hid _ := q1
  replace tb : Hid _ := tb
  replace p0 : Hid _ := p0
  go_wp2_with fail
  obtain ⟨W, hW⟩ : ∃ W, w2.alloc (Obj.cells #[Value.string nm, Value.slice fa' fs.length cf', Value.int IntKind.i64 N, Value.slice ba' base.length cb', Value.slice none 0 0] 52) = W := ⟨_, rfl⟩
  have sW : W.heap.size = w2.heap.size + 1 := by rw [← hW]; simp
  rw [hW] at kb tb ⊢
  have htW := ht.keep (k02.trans kb)
  clear hW p0 x4
  go_loopw [14] (fun iv wr => ∃ (k : Nat) (v : Value) (K : List (Int × Option Addr × Nat × Nat)), k ≤ ts.length ∧ iv = .int .i64 k ∧ CJt (mdT ts) w2 W w2.heap.size (.string nm) (.slice fa' fs.length cf') (.int .i64 N) (.slice ba' base.length cb') k v wr K ∧ Hid (mdE ts = mdE (ts.drop k)) ∧ Hid (∀ j, j < k → ∃ w0 a0, RdN w0 a0 ((mdT ts).getD j (0, [])).2 ∧ ((mdT ts).getD j (0, [])).2.length ≤ 2199023255552 ∧ (-9223372036854775808 ≤ ((mdT ts).getD j (0, [])).1 ∧ ((mdT ts).getD j (0, [])).1 ≤ 9223372036854775807))) (fun iv _ => ts.length - (intOf iv).toNat)
  case atStart => exact ⟨0, .slice none 0 0, [], by omega, rfl, ⟨rfl, fun j hj => by omega, OwnT.nil _ _, fun j hj => by omega, kb, Nat.le_refl _, tb.out, fun b _ _ => rfl⟩, rfl, fun j hj => by omega⟩
  case round =>
    obtain ⟨k, v, K, hk, rfl, hI, hme, hnn⟩ := hrel
    have kwr : Keep w wr := k02.trans hI.kp
    by_cases hkl : k < ts.length
    · have hkc : (k : Int) < (ts.length : Int) := by omega
      obtain ⟨b, o, na, nc, rfl, d0, d1, dn, dc, dl, df⟩ := (ht.keep kwr) k hkl
      obtain ⟨T, hT⟩ : ∃ T, ts.getD k (0, []) = T := ⟨_, rfl⟩
      have HT : Hid (ts.getD k (0, []) = T) := hT
      rw [hT] at d0 d1 dn dc dl df
      clear hT
      obtain ⟨out, L⟩ := T
      simp only at d0 d1 dn dc dl df
      have kx : Keep wr (wr.alloc (Obj.cells #[Value.int IntKind.i64 out, Value.slice na L.length nc] 24)) := (Keep.refl wr).alloc _
      have hzB : w2.heap.size < wr.heap.size := (Array.getElem?_eq_some_iff.1 hI.bx).1
      have hCn := Canon_any na nc out L dl (wr.alloc (Obj.cells #[Value.int IntKind.i64 out, Value.slice na L.length nc] 24)) (dn.keep kx)
      have hKl : K.length + 1 ≤ 4398046511104 := by have := hI.len; omega
      have HU := mdT_at hkl HT.out
      obtain ⟨O, hO'⟩ : ∃ O, cnoO L out = O := ⟨_, rfl⟩
      obtain ⟨M, hM⟩ : ∃ M, cnoN L = M := ⟨_, rfl⟩
      rw [hO', hM] at hCn HU
      replace HU : Hid _ := HU
      by_cases hE : shE L = 0
      · rw [hE] at hCn
        have HE : Hid (mdE ts = mdE (ts.drop (k + 1))) := hme.out.trans (mdE_ok hkl HT.out hE)
        clear hE hme
        have HM := cnoN_len L dl
        rw [hM] at HM
        have hOb : -9223372036854775808 ≤ O ∧ O ≤ 9223372036854775807 := by rw [← hO']; unfold cnoO; split; exact df; omega
        go_wp2_with (first | (go_at_call 37; refine hCn.mono ?_; rintro e w6 ⟨an, cn, rfl, hcn, hrn, k6, hC6⟩; have kq := fun ob => (kx.trans k6).alloc ob; have bq := fun ob => ((kq ob).block _ hzB).trans hI.bx; have c4 := fun ob => cell_of_row _ _ 4 _ 52 (0, 0) (bq ob); simp only [List.getElem?_toArray, List.getElem?_cons_zero, List.getElem?_cons_succ] at c4; replace bq : Hid _ := bq) | (at_builtin; refine wpList_appT W.heap.size _ rfl _ _ rfl K (O, an, M.length, cn) v ?_ (hI.own.keep ((kq _).alloc _)) (Nat.le_trans hI.sz ((kq _).alloc _).le) ⟨w6.heap.size + 1, 0, none⟩ 1 ?_ (by have h := newsT (w6.alloc (Obj.cells #[Value.int IntKind.i64 O, Value.slice an M.length cn] 24)) O an M.length cn; rw [World.size_alloc] at h; exact h) hKl ?_; rotate_left 2; intro v7 w7 hO7 g7 hv7; obtain ⟨a7, c7, rfl, hc7, -⟩ := hO7.shape; have bx7 : w7.heap[w2.heap.size]? = some (.cells #[.string nm, .slice fa' fs.length cf', .int .i64 N, .slice ba' base.length cb', v] 52 (0, 0)) := (g7.block _ (by simp only [World.size_alloc]; have := (kx.trans k6).le; omega) (fun e => by have := (hI.own.block e.symm).1; omega)).trans ((((kq (Obj.cells #[Value.int IntKind.i64 O, Value.slice an M.length cn] 24)).alloc _).block _ hzB).trans hI.bx); have z4 := cell_of_row _ _ 4 _ 52 (0, 0) bx7; have f4 := frozen_of_row _ _ 4 _ 52 bx7; simp only [List.getElem?_toArray, List.getElem?_cons_zero, List.getElem?_cons_succ] at z4; replace bx7 : Hid _ := bx7))
        · have hJ := hI.step (by omega) (Nat.le_refl _) HU.out (kq (Obj.cells #[Value.int IntKind.i64 O, Value.slice an M.length cn] 24)) (hC6.same (fun b hb => Below.heap_alloc _ _ _ hb.2) (fun b hb => ⟨by have h1 := hb.1; have h2 := kx.le; omega, by rw [World.size_alloc]; have := hb.2; omega⟩)) hcn hO7 g7 (by simpa using hv7)
          rw [show (K ++ [(O, an, M.length, cn)]).length = K.length + 1 by simp] at hJ
          have HNN : Hid (∀ j, j < k + 1 → ∃ w0 a0, RdN w0 a0 ((mdT ts).getD j (0, [])).2 ∧ ((mdT ts).getD j (0, [])).2.length ≤ 2199023255552 ∧ (-9223372036854775808 ≤ ((mdT ts).getD j (0, [])).1 ∧ ((mdT ts).getD j (0, [])).1 ≤ 9223372036854775807)) := by
            intro j hj
            by_cases e : j = k
            · subst e; rw [HU.out]; exact ⟨w6, an, hrn, HM, hOb⟩
            · exact hnn.out j (by omega)
          exact ⟨⟨k + 1, _, _, by omega, by go_num, hJ, HE, HNN⟩, by simp [intOf]; omega⟩
        all_goals rfl
      · have HE : Hid (mdE ts = shE L) := hme.out.trans (mdE_bad hkl HT.out hE)
        have hne : mdE ts ≠ 0 := by rw [HE.out]; exact hE
        have hB : (shE L == 0) = false := by simpa using hE
        have hB2 : (shE L != 0) = true := by simpa using hE
        clear hE hme
        generalize shE L = E at *
        have m1 : wr.heap[w.heap.size + 1]? = _ := (hI.kp.block _ hz2).trans q1.out
        go_wp2_with fail
        refine hCn.mono ?_
        rintro e w6 ⟨an, cn, rfl, hcn, hrn, k6, hC6⟩
        have kq : Keep wr (w6.alloc (Obj.cells #[Value.int IntKind.i64 O, Value.slice an M.length cn] 24)) := (kx.trans k6).alloc _
        have m6 := (kq.block _ (by omega)).trans m1
        have y0 := cell_of_row _ _ 0 _ 52 (0, 0) m6
        have y1 := cell_of_row _ _ 1 _ 52 (0, 0) m6
        have y2 := cell_of_row _ _ 2 _ 52 (0, 0) m6
        have y3 := cell_of_row _ _ 3 _ 52 (0, 0) m6
        have y4 := cell_of_row _ _ 4 _ 52 (0, 0) m6
        have f0 := frozen_of_row _ _ 0 _ 52 m6
        have f1 := frozen_of_row _ _ 1 _ 52 m6
        have f2 := frozen_of_row _ _ 2 _ 52 m6
        have f3 := frozen_of_row _ _ 3 _ 52 m6
        have f4 := frozen_of_row _ _ 4 _ 52 m6
        simp only [List.getElem?_toArray, List.getElem?_cons_zero, List.getElem?_cons_succ] at y0 y1 y2 y3 y4
        replace m6 : Hid _ := m6
        replace m1 : Hid _ := m1
        go_wp2_with fail
        obtain ⟨F2, F1⟩ := store5 (w6.alloc (Obj.cells #[Value.int IntKind.i64 O, Value.slice an M.length cn] 24)) (w.heap.size + 1) 52 _ _ _ _ _ (.string ⟨#[]⟩) (.slice none 0 0) (.int .i64 0) (.slice none 0 0) (.slice none 0 0) m6.out
        try simp only [Exit.inBlock, Exit.then]
        refine bodyPost_ret (results_cell_tmp rfl _ _ (w.heap.size + 1) 52 _ (0, 0) _ rfl F2 Try.underlying52 rfl (by kernel_rfl)) rfl ?_
        refine ⟨.inr ⟨hne, by rw [HE.out]; rfl⟩, ?_⟩
        exact (((((kwr.trans kq).setCell (p := ⟨w.heap.size + 1, 0, none⟩) (by show w.heap.size ≤ w.heap.size + 1; omega) _).setCell (p := ⟨w.heap.size + 1, 1, none⟩) (by show w.heap.size ≤ w.heap.size + 1; omega) _).setCell (p := ⟨w.heap.size + 1, 2, none⟩) (by show w.heap.size ≤ w.heap.size + 1; omega) _).setCell (p := ⟨w.heap.size + 1, 3, none⟩) (by show w.heap.size ≤ w.heap.size + 1; omega) _).setCell (p := ⟨w.heap.size + 1, 4, none⟩) (by show w.heap.size ≤ w.heap.size + 1; omega) _
    · have hkc : ¬ (k : Int) < (ts.length : Int) := by omega
      obtain rfl : k = ts.length := by omega
      obtain ⟨ta', ct', rfl, hct, -⟩ := hI.own.shape
      have hI' : CJt (mdT ts) w2 W w2.heap.size (.string nm) (.slice fa' fs.length cf') (.int .i64 N) (.slice ba' base.length cb') (mdT ts).length (.slice ta' (mdT ts).length ct') wr K := by have h := hI; rw [hI.len] at h; rw [hml]; exact h
      have hm0 : Hid (mdE ts = 0) := by show _ = _; rw [hme.out, List.drop_eq_nil_of_le (Nat.le_refl _)]; rfl
      rw [hI.len] at hct
      have bxc := hI'.bx
      rw [hml] at bxc
      have m1 : wr.heap[w.heap.size + 1]? = _ := (hI.kp.block _ hz2).trans q1.out
      have g0 := cell_of_row wr _ 0 _ 52 (0, 0) bxc
      have g1 := cell_of_row wr _ 1 _ 52 (0, 0) bxc
      have g2 := cell_of_row wr _ 2 _ 52 (0, 0) bxc
      have g3 := cell_of_row wr _ 3 _ 52 (0, 0) bxc
      have g4 := cell_of_row wr _ 4 _ 52 (0, 0) bxc
      have y0 := cell_of_row wr _ 0 _ 52 (0, 0) m1
      have y1 := cell_of_row wr _ 1 _ 52 (0, 0) m1
      have y2 := cell_of_row wr _ 2 _ 52 (0, 0) m1
      have y3 := cell_of_row wr _ 3 _ 52 (0, 0) m1
      have y4 := cell_of_row wr _ 4 _ 52 (0, 0) m1
      have f0 := frozen_of_row wr _ 0 _ 52 m1
      have f1 := frozen_of_row wr _ 1 _ 52 m1
      have f2 := frozen_of_row wr _ 2 _ 52 m1
      have f3 := frozen_of_row wr _ 3 _ 52 m1
      have f4 := frozen_of_row wr _ 4 _ 52 m1
      simp only [List.getElem?_toArray, List.getElem?_cons_zero, List.getElem?_cons_succ] at g0 g1 g2 g3 g4 y0 y1 y2 y3 y4
      replace m1 : Hid _ := m1
      replace bxc : Hid _ := bxc
      go_wp2_with fail
      obtain ⟨F2, F1⟩ := store5 wr (w.heap.size + 1) 52 _ _ _ _ _ (.string nm) (.slice fa' fs.length cf') (.int .i64 N) (.slice ba' base.length cb') (.slice ta' ts.length ct') m1.out
      try simp only [Exit.inBlock, Exit.then]
      refine bodyPost_ret (results_cell_tmp rfl _ _ (w.heap.size + 1) 52 _ (0, 0) _ rfl F2 Try.underlying52 rfl (by kernel_rfl)) rfl ?_
      have hk12 := k1.le
      have oF' := oF.mono (B' := w.heap.size) (by have := k1.le; omega)
      have lowb : ∀ g, w1.heap.size ≤ g → g < w2.heap.size → wr.heap[g]? = w2.heap[g]? := fun g h1 h2 => hI.kp.block g h2
      have oF2 := oF.same (w' := (((((wr.setCell ⟨w.heap.size + 1, 0, none⟩ (.string nm)).setCell ⟨w.heap.size + 1, 1, none⟩ (.slice fa' fs.length cf')).setCell ⟨w.heap.size + 1, 2, none⟩ (.int .i64 N)).setCell ⟨w.heap.size + 1, 3, none⟩ (.slice ba' base.length cb')).setCell ⟨w.heap.size + 1, 4, none⟩ (.slice ta' ts.length ct'))) (fun g hg => by
        obtain ⟨h1, c, h2⟩ := oF.block hg
        rw [F1 g (by omega)]
        exact lowb g h1 (Array.getElem?_eq_some_iff.1 h2).1)
      have oB2 := oB.same (w' := (((((wr.setCell ⟨w.heap.size + 1, 0, none⟩ (.string nm)).setCell ⟨w.heap.size + 1, 1, none⟩ (.slice fa' fs.length cf')).setCell ⟨w.heap.size + 1, 2, none⟩ (.int .i64 N)).setCell ⟨w.heap.size + 1, 3, none⟩ (.slice ba' base.length cb')).setCell ⟨w.heap.size + 1, 4, none⟩ (.slice ta' ts.length ct'))) (fun g hg => by
        obtain ⟨h1, c, h2⟩ := oB.block hg
        rw [F1 g (by omega)]
        exact lowb g h1 (Array.getElem?_eq_some_iff.1 h2).1)
      obtain ⟨_, _, eF, hF1, hF2⟩ := oF2.shape
      obtain ⟨_, _, eB, hB1, hB2⟩ := oB2.shape
      simp only [Value.slice.injEq] at eF eB
      obtain ⟨rfl, -, rfl⟩ := eF
      obtain ⟨rfl, -, rfl⟩ := eB
      have hTT := hI'.rdT (wf := (((((wr.setCell ⟨w.heap.size + 1, 0, none⟩ (.string nm)).setCell ⟨w.heap.size + 1, 1, none⟩ (.slice fa' fs.length cf')).setCell ⟨w.heap.size + 1, 2, none⟩ (.int .i64 N)).setCell ⟨w.heap.size + 1, 3, none⟩ (.slice ba' base.length cb')).setCell ⟨w.heap.size + 1, 4, none⟩ (.slice ta' ts.length ct'))) (fun g hg => F1 g (by omega)) (fun j hj => hnn.out j (by rw [hml] at hj; exact hj))
      rw [hml] at hTT
      refine ⟨.inl ⟨hm0.out, _, _, _, _, _, _, rfl, hF2, hF1, hB2, hB1, hTT.1, hTT.2⟩, ?_⟩
      exact ((((kwr.setCell (p := ⟨w.heap.size + 1, 0, none⟩) (by show w.heap.size ≤ w.heap.size + 1; omega) _).setCell (p := ⟨w.heap.size + 1, 1, none⟩) (by show w.heap.size ≤ w.heap.size + 1; omega) _).setCell (p := ⟨w.heap.size + 1, 2, none⟩) (by show w.heap.size ≤ w.heap.size + 1; omega) _).setCell (p := ⟨w.heap.size + 1, 3, none⟩) (by show w.heap.size ≤ w.heap.size + 1; omega) _).setCell (p := ⟨w.heap.size + 1, 4, none⟩) (by show w.heap.size ≤ w.heap.size + 1; omega) _
end Go.Proofs.Ytbchinfmdioijaa
