import Derived.Test.YtaogjiffnebnkaaSD
import Derived.Test.YtaogjiffnebnkaaODSD3
import Derived.Test.YtaogjiffnebnkaaSG
import Derived.Test.YtaogjiffnebnkaaXC
set_option linter.unusedVariables false
set_option linter.unusedSimpArgs false
namespace Go.Proofs.Ytaogjiffnebnkaa
open Go.RowKit Go.Shelf Go.Maps
attribute [local go_sem] Oper.semAt_some
theorem UF_length (l : List Nat) : (UF l).length = l.length := by simp [UF]
theorem UF_get (l : List Nat) (j : Nat) (h : j < l.length) : (UF l)[j]? = some (.float .f64 (l.getD j 0)) := by simp [UF, List.getD, h]
def OwnF (w : World) (v : Value) (l : List Nat) : Prop := w.ownsRow 0 34 1 v l.length (UF l)
theorem OwnF.same {w w' : World} {v : Value} {l : List Nat} (h : OwnF w v l) (k : ∀ b, v.ownBlock = some b → w'.heap[b]? = w.heap[b]?) : OwnF w' v l := by
  refine ⟨h.1, ?_⟩
  rcases h.2 with h2 | ⟨g, cap, cur, hv, hg, hh, r⟩
  · exact .inl h2
  · exact .inr ⟨g, cap, cur, hv, hg, by rw [k g (by rw [hv]; rfl)]; exact hh, r⟩
theorem OwnF.block {w : World} {v : Value} {l : List Nat} (h : OwnF w v l) {b : Nat} (hb : v.ownBlock = some b) : ∃ cur, w.heap[b]? = some (.cells cur 34 (0, 0)) := by
  rcases h.2 with ⟨h1, _⟩ | ⟨g, cap, cur, hv, hg, hh, r⟩
  · rw [h1] at hb; cases hb
  · rw [hv] at hb
    have hb : some g = some b := hb
    simp only [Option.some.injEq] at hb
    subst hb
    exact ⟨cur, hh⟩
theorem OwnF.nil (w : World) : OwnF w (.slice none 0 0) [] := ⟨rfl, .inl ⟨rfl, rfl⟩⟩
theorem OwnF.cells {w : World} {v : Value} {l : List Nat} (h : OwnF w v l) (h0 : 0 < l.length) : ∃ g cap, v = .slice (some ⟨g, 0, none⟩) l.length cap ∧ l.length ≤ cap ∧ g < w.heap.size ∧ ∀ j, j < l.length → w.cell? ⟨g, j, none⟩ = some (.float .f64 (l.getD j 0)) := by
  rcases h.2 with ⟨h1, h2⟩ | ⟨g, cap, cur, hv, hg, hh, h1, h2, h3, h4⟩
  · omega
  · refine ⟨g, cap, hv, h1, (Array.getElem?_eq_some_iff.1 hh).1, ?_⟩
    intro j hj
    rw [cell_of_row w g j cur 34 (0, 0) hh, ← UF_get l j hj, ← h4]
    simp [hj]
theorem OwnF.shape {w : World} {v : Value} {l : List Nat} (h : OwnF w v l) : ∃ a c, v = .slice a l.length c ∧ l.length ≤ c := by
  rcases h.2 with ⟨h1, h2⟩ | ⟨g, cap, cur, hv, hg, hh, h1, h2, h3, h4⟩
  · exact ⟨none, 0, by rw [h1, h2], by omega⟩
  · exact ⟨_, cap, hv, h1⟩
/-- The last one taken off. -/
theorem OwnF.pop {w : World} {g cap : Nat} {l : List Nat} {x : Nat} (h : OwnF w (.slice (some ⟨g, 0, none⟩) (l ++ [x]).length cap) (l ++ [x])) : OwnF w (.slice (some ⟨g, 0, none⟩) l.length cap) l := by
  rcases h.2 with ⟨h1, h2⟩ | ⟨g', cap', cur, hv, hg, hh, h1, h2, h3, h4⟩
  · cases h1
  · simp only [Value.slice.injEq, Option.some.injEq, Addr.mk.injEq, and_true, true_and] at hv
    obtain ⟨rfl, rfl⟩ := hv
    refine ⟨by simp [UF], .inr ⟨g, cap, cur, rfl, hg, hh, by simp at h1; omega, h2, h3, ?_⟩⟩
    have := congrArg (List.take l.length) h4
    rw [List.take_take, Nat.mul_one, Nat.min_eq_left (by simp)] at this
    rw [Nat.mul_one, this]
    simp [UF]
/-- What append leaves: the same block, or a new one. -/
theorem appF_sep (w : World) (ty : Nat) (v : Value) (l ys : List Nat) (hown : OwnF w v l) (ad : Addr) (c : Nat) (hm : 0 < ys.length) (hnews : ∀ j u, (UF ys)[j]? = some u → w.cell? (ad.add j) = some u) (hlen : l.length + ys.length ≤ 17592186044416) :
    ∃ v' w', (Builtin.append_ #[46, 46] ty #[v, .slice (some ad) ys.length c]).run Try.prog w = .ok v' w' ∧ OwnF w' v' (l ++ ys) ∧ w.grownBy w' v.ownBlock ∧ (v'.ownBlock = v.ownBlock ∨ v'.ownBlock = some w.heap.size) := by
  obtain ⟨i0, hi, hz0, hz1, hz2⟩ := info_parts i23
  have h1 : ∀ u ∈ UF ys, u.oneCell' = true := by intro u hu; obtain ⟨_, _, rfl⟩ := List.mem_map.1 hu; rfl
  have hl : (UF ys).length = ys.length * 1 := by simp [UF]
  obtain ⟨v', w', hr, h2, h3, -⟩ := run_append_own (P := Try.prog) w 0 46 ty 34 i0 (.float .f64 0) 1 8 Try.underlying46 hi hz0 hz1 hz2 rfl (by decide) v _ _ hown ad ys.length c (UF ys) hl hnews h1 (by simp only [maxLen]; omega) (by omega) (by omega)
  refine ⟨v', w', hr, ?_, h3, ?_⟩
  · unfold OwnF; rw [List.length_append]; simpa [UF] using h2
  rcases hown.2 with ⟨rfl, hn⟩ | ⟨g, cap, cur, rfl, hbg, hg, hnc, hcm, hcs, htake⟩
  · have e := run_append_nil (P := Try.prog) w 46 ty 34 i0 _ Try.underlying46 hi hz0 ad ys.length c (UF ys) (by rw [hz1]; exact hl) hnews hm (by omega) (by rw [hz2]; omega)
    rw [hr] at e
    simp only [Result.ok.injEq] at e
    rw [e.1]
    exact .inr rfl
  · by_cases hroom : l.length + ys.length ≤ cap
    · have e := run_append_room (P := Try.prog) w 46 ty 34 i0 Try.underlying46 hi g l.length cap cur hg ad ys.length c (UF ys) (by rw [hz1]; exact hl) hnews h1 hroom (by rw [hz1, UF_length]; omega)
      rw [hr] at e
      simp only [Result.ok.injEq] at e
      rw [e.1]
      exact .inl rfl
    · have holds : ∀ j u, (UF l)[j]? = some u → w.cell? ((⟨g, 0, none⟩ : Addr).add j) = some u := World.ownsRow.cells (v := .slice (some ⟨g, 0, none⟩) l.length cap) hown (g := g) rfl
      have e := run_append_grow (P := Try.prog) w 46 ty 34 i0 _ Try.underlying46 hi hz0 ⟨g, 0, none⟩ l.length cap (UF l) (by rw [hz1, UF_length]; omega) holds ad ys.length c (UF ys) (by rw [hz1]; exact hl) hnews (by omega) (by omega) (growslice_fits (by omega) (by rw [hz2]; omega))
      rw [hr] at e
      simp only [Result.ok.injEq] at e
      rw [e.1]
      exact .inr rfl
/-- A list that is gathered in a box while an iterator runs. -/
structure ColF (Bl Bs R : Nat) (w3 : World) (l : List Nat) (T : Nat → Prop) (W : World) : Prop where
  box : ∃ v, W.heap[Bl]? = some (.cells #[v] 46 (0, 0)) ∧ OwnF W v l ∧ ∀ b, v.ownBlock = some b → ¬ T b ∧ R + 2 ≤ b
  tb : ∀ g, T g → Bs ≤ g ∧ g < W.heap.size
  be : Below Bl w3 W
  sz : R ≤ W.heap.size
theorem ColF.st {Bl Bs R : Nat} {w3 : World} {l : List Nat} {T : Nat → Prop} {A B : World} (hB : Bl < Bs) (hBR : Bs ≤ R) (h : ColF Bl Bs R w3 l T A) (hst : Mk.Stp T A B) : ColF Bl Bs R w3 l (Mk.more T A B) B := by
  obtain ⟨⟨v, h1, h2, h3⟩, h4, h5, h6⟩ := h
  have kp : ∀ g, g < Bs → g < A.heap.size → B.heap[g]? = A.heap[g]? := fun g hg hz => hst.block g hz (fun h => by have := h4 g h; omega)
  refine ⟨⟨v, ?_, ?_, ?_⟩, ?_, ?_, by have := hst.size; omega⟩
  · rw [kp Bl hB (by omega)]; exact h1
  · refine h2.same (fun b hb => ?_)
    obtain ⟨cur, hc⟩ := h2.block hb
    exact hst.block b (Array.getElem?_eq_some_iff.1 hc).1 (h3 b hb).1
  · intro b hb
    obtain ⟨cur, hc⟩ := h2.block hb
    have hlt := (Array.getElem?_eq_some_iff.1 hc).1
    refine ⟨?_, (h3 b hb).2⟩
    rintro (h | h)
    · exact (h3 b hb).1 h
    · omega
  · rintro g (h | h)
    · have := h4 g h; have := hst.size; omega
    · omega
  · exact ⟨hst.os.trans h5.os, hst.tape.trans h5.tape, hst.output.trans h5.output, by have := hst.size; have := h5.size; omega, fun g hg => (kp g (by omega) (by omega)).trans (h5.block g hg)⟩
theorem ColF.put {Bl Bs R : Nat} {w3 : World} {l : List Nat} {T : Nat → Prop} {A : World} {r : Nat} {o' : Obj} (hB : Bl < Bs) (hBR : Bs ≤ R) (h : ColF Bl Bs R w3 l T A) (h1 : R ≤ r) (h2 : r < R + 2) : ColF Bl Bs R w3 l T (A.putObj r o') := by
  obtain ⟨⟨v, q1, q2, q3⟩, q4, q5, q6⟩ := h
  have kp : ∀ g, g ≠ r → (A.putObj r o').heap[g]? = A.heap[g]? := fun g hg => World.putObj_heap_other hg
  refine ⟨⟨v, ?_, ?_, q3⟩, by simpa using q4, ?_, by simpa using q6⟩
  · rw [kp _ (by omega)]; exact q1
  · exact q2.same (fun b hb => kp b (by have := (q3 b hb).2; omega))
  · exact ⟨q5.os, q5.tape, q5.output, by simpa using q5.size, fun g hg => (kp g (by omega)).trans (q5.block g hg)⟩
/-- One more. -/
theorem ColF.app {Bl Bs R : Nat} {w3 : World} {l : List Nat} {T : Nat → Prop} {A B : World} {o : Obj} {v v' : Value} {x : Nat} (hB : Bl < Bs) (hBR : Bs ≤ R) (h : ColF Bl Bs R w3 l T A) (hz : R + 2 ≤ A.heap.size) (hbox : A.heap[Bl]? = some (.cells #[v] 46 (0, 0))) (hv3 : ∀ b, v.ownBlock = some b → ¬ T b ∧ R + 2 ≤ b)
    (ho : OwnF B v' (l ++ [x])) (hgr : (A.alloc o).grownBy B v.ownBlock) (hsep : v'.ownBlock = v.ownBlock ∨ v'.ownBlock = some (A.heap.size + 1)) :
    ColF Bl Bs R w3 (l ++ [x]) T (B.setCell ⟨Bl, 0, none⟩ v') ∧ (∀ g, g < A.heap.size → g ≠ Bl → v.ownBlock ≠ some g → (B.setCell ⟨Bl, 0, none⟩ v').heap[g]? = A.heap[g]?) ∧ B.cell? ⟨Bl, 0, none⟩ = some v ∧ B.frozen? ⟨Bl, 0, none⟩ = false ∧ A.heap.size ≤ B.heap.size := by
  have hb : Below A.heap.size A (A.alloc o) := (Below.refl A.heap.size A).alloc (Nat.le_refl _) o
  have kB : ∀ g, g < A.heap.size → v.ownBlock ≠ some g → B.heap[g]? = A.heap[g]? := fun g hg hne => by rw [hgr.block g (Nat.lt_of_lt_of_le hg hb.size) (fun e => hne e.symm), hb.block g hg]
  have hBl : v.ownBlock ≠ some Bl := fun e => by have := (hv3 Bl e).2; omega
  have boxB : B.heap[Bl]? = some (.cells #[v] 46 (0, 0)) := by rw [kB Bl (by omega) hBl]; exact hbox
  have szB : A.heap.size ≤ B.heap.size := Nat.le_trans hb.size hgr.size
  have ne := neq_set B Bl 0 v'
  have vlt : ∀ b, v'.ownBlock = some b → ¬ T b ∧ R + 2 ≤ b := by
    intro b e
    rcases hsep with e2 | e2
    · rw [e2] at e; exact hv3 b e
    · rw [e2] at e
      simp only [Option.some.injEq] at e
      subst e
      exact ⟨fun h' => by have := h.tb _ h'; omega, by omega⟩
  refine ⟨⟨⟨v', ?_, ?_, vlt⟩, fun g hg => by have := h.tb g hg; simp; omega, ?_, by simp; omega⟩, ?_, ?_, ?_, szB⟩
  · exact heap_setCell_same B Bl 0 _ 46 v' boxB
  · exact ho.same (fun b e => ne b (by have := (vlt b e).2; omega))
  · have h5 := h.be
    exact ⟨hgr.os.trans (hb.os.trans h5.os), hgr.tape.trans (hb.tape.trans h5.tape), hgr.output.trans (hb.output.trans h5.output), by have := h5.size; simp; omega, fun g hg => by rw [ne g (by omega), kB g (by omega) (fun e => by have := (hv3 g e).2; omega)]; exact h5.block g hg⟩
  · intro g hg h1 h2; rw [ne g h1]; exact kB g hg h2
  · rw [cell_of_row B Bl 0 _ 46 (0, 0) boxB]; rfl
  · exact frozen_of_row B Bl 0 _ 46 boxB
/-- Three new boxes. -/
theorem boxes3 (w : World) (u v x : Value) (t1 t2 t3 : Nat) : ∃ w4, ((w.alloc (Obj.cells #[u] t1)).alloc (Obj.cells #[v] t2)).alloc (Obj.cells #[x] t3) = w4 ∧ Keep w w4 ∧ w4.heap.size = w.heap.size + 3 ∧
    w4.heap[w.heap.size]? = some (Obj.cells #[u] t1 (0, 0)) ∧ w4.heap[w.heap.size + 1]? = some (Obj.cells #[v] t2 (0, 0)) ∧ w4.heap[w.heap.size + 1 + 1]? = some (Obj.cells #[x] t3 (0, 0)) := by
  refine ⟨_, rfl, (((Keep.refl w).alloc _).alloc _).alloc _, by simp, ?_, ?_, ?_⟩
  · exact (Below.heap_alloc _ _ _ (by simp; omega)).trans ((Below.heap_alloc _ _ _ (by simp)).trans (heap_alloc_new w _))
  · have := heap_alloc_new (w.alloc (Obj.cells #[u] t1)) (Obj.cells #[v] t2)
    rw [World.size_alloc] at this
    exact (Below.heap_alloc _ _ _ (by simp)).trans this
  · have := heap_alloc_new ((w.alloc (Obj.cells #[u] t1)).alloc (Obj.cells #[v] t2)) (Obj.cells #[x] t3)
    rw [World.size_alloc, World.size_alloc] at this
    exact this
end Go.Proofs.Ytaogjiffnebnkaa
set_option linter.unusedVariables false
set_option linter.unusedSimpArgs false
namespace Go.Proofs.Ytaogjiffnebnkaa
open Go.RowKit Go.Shelf Go.Maps
open Mk (SeqT postT wp_rangeT)
attribute [local go_sem] Oper.semAt_some run_store_float
theorem thr_f64 {w : World} {a : Option Addr} {ts : List (Int × List Nd)} (h : RdT w a ts) (f : Int) : F64 (thr ts f) := by
  intro x hx
  obtain ⟨k, i, hk, hi, -, -, rfl⟩ := mem_thr.1 hx
  obtain ⟨b, o, na, nc, -, -, -, hN, -⟩ := h k hk
  obtain ⟨b2, o2, ca, cp, -, hn⟩ := hN i hi
  exact hn.ok.th
theorem newsF1 (W : World) (x : Nat) : ∀ j u, (UF [x])[j]? = some u → (W.alloc (Obj.cells #[Value.float .f64 x] 34)).cell? ((⟨W.heap.size, 0, none⟩ : Addr).add j) = some u := newsF W x
theorem OwnF.rd {w : World} {v : Value} {l : List Nat} (h : OwnF w v l) : ∃ a c, v = .slice a l.length c ∧ RdV w a l := by
  by_cases h0 : 0 < l.length
  · obtain ⟨g, cap, e, -, -, hc⟩ := h.cells h0
    refine ⟨_, cap, e, fun i hi => ⟨g, 0, rfl, ?_⟩⟩
    rw [Nat.zero_add]; exact hc i hi
  · obtain ⟨a, c, e, -⟩ := h.shape
    exact ⟨a, c, e, fun i hi => by omega⟩
/-- append(l, x) as a step of a region, inside whatever fence. -/
theorem stepIn_appF {F : Fence} {m : Nat} {ops : Array Oper} {o : Oper} {a : Act} {K : Act → World → Prop} {Q : Exit → Act → World → Prop} {X : Prop} {w : World} (hgd : o.guard = none) (s x : Operand)
    (hop : o.op = .call { callee := .builtin .append, args := #[s, x], argTypes := #[46, 46] }) (l : List Nat) (y : Nat) (v : Value) (hs : a.eval s = v) (hown : OwnF w v l) (ad : Addr) (c : Nat) (hx : a.eval x = .slice (some ad) 1 c)
    (hnews : ∀ j u, (UF [y])[j]? = some u → w.cell? (ad.add j) = some u) (hlen : l.length + 1 ≤ 17592186044416)
    (hK : ∀ v' w', OwnF w' v' (l ++ [y]) → w.grownBy w' v.ownBlock → (v'.ownBlock = v.ownBlock ∨ v'.ownBlock = some w.heap.size) → K (a.put o.dst v') w') :
    if Region.wanted o (yielded ops a.tmps) = true then Oper.wpIn F m Try.prog o a w K Q else X := by
  have hw : Region.wanted o (yielded ops a.tmps) = true := by simp [Region.wanted, hgd]
  rw [if_pos hw]
  obtain ⟨v', w', hrun, r1, r2, r3⟩ := appF_sep w o.type v l [y] hown ad c (by simp) hnews hlen
  unfold Oper.wpIn
  refine ⟨?_, ?_⟩
  · simp [Oper.about, hop, resolve, Target.leads, Sem.run_pure]
  · rw [Oper.semAt_plain F _ _ (by rw [hop]; intro c hc'; cases hc')]
    have hrun' : (Builtin.append_ #[46, 46] o.type #[v, .slice (some ad) 1 c]).run Try.prog w = .ok v' w' := hrun
    simp [execOp, hop, resolve, invoke, builtin, hs, hx, hrun', Result.andThen]
    exact hK _ _ r1 r2 r3
/-- Another block turned. -/
theorem own_putO {B B' e s n : Nat} {w : World} {v : Value} {l : List Value} {r : Nat} {o : Obj} (h : w.ownsRow B e s v n l) (h' : w.ownsRow B' e s v n l) (hr : r < B) : (w.putObj r o).ownsRow B' e s v n l := by
  refine ⟨h'.1, ?_⟩
  rcases h.2 with h2 | ⟨g, cap, cur, hv, hg, hh, q⟩
  · exact .inl h2
  · rcases h'.2 with h2 | ⟨g', cap', cur', hv', hg', hh', q'⟩
    · exact .inl h2
    · refine .inr ⟨g', cap', cur', hv', hg', ?_, q'⟩
      have e : g' = g := by
        have := hv'.symm.trans hv
        simp only [Value.slice.injEq, Option.some.injEq, Addr.mk.injEq] at this
        exact this.1.1
      rw [World.putObj_heap_other (by omega)]
      exact hh'
set_option maxRecDepth 100000 in
set_option maxHeartbeats 4000000 in
theorem Thr_in (n : Nat) (hn : 3 ≤ n) (a : Option Addr) (cap : Nat) (ts : List (Int × List Nd)) (N : Nat) (hN : ts.length = N) (f : Int) (hLn : N ≤ 4398046511104) (w : World) (hrd : RdT w a ts) (hsz : (thr ts f).length ≤ 17592186044414) :
    CallsIn Fence.wide n Try.prog 27 #[.slice a N cap, .int .i64 f] w fun e w' => ∃ g cp D, e = .returned (.slice (some ⟨g, 0, none⟩) (D : List Nat).length cp) ∧ Dst (thr ts f) D ∧ w'.ownsRow w.heap.size 34 1 (.slice (some ⟨g, 0, none⟩) D.length cp) D.length (UF D) ∧ Keep w w' := by
  have h1 : 1 ≤ n := by omega
  have hF := thr_f64 hrd f
  refine callsIn_of_wp_marks Try.func27 rfl trivial ?_ rfl
  simp only [Try.ntmps27, List.size_toArray, List.length_cons, List.length_nil, Nat.reduceAdd, Nat.reduceSub, Array.replicate_succ, Array.replicate_zero, List.push_toArray, List.append_toArray, List.nil_append, List.cons_append]
  gi_wp2_with (refine ⟨trivial, ?_⟩; gi_at_call 47; refine (nodes_in (n - 1) _ _ _ 2 _ _).mono ?_; rintro e w' ⟨rfl, rfl⟩)
  obtain ⟨w1, hw1⟩ : ∃ w1, w.alloc (Obj.cells #[Value.slice none 0 0] 46) = w1 := ⟨_, rfl⟩
  have k01 : Keep w w1 := by rw [← hw1]; exact (Keep.refl w).alloc _
  have s1 : w1.heap.size = w.heap.size + 1 := by rw [← hw1]; simp
  have l1 : w1.heap[w.heap.size]? = some (Obj.cells #[Value.slice none 0 0] 46 (0, 0)) := by rw [← hw1]; exact heap_alloc_new w _
  obtain ⟨w4, hw4, kA, sA, bA, xA, yA⟩ := boxes3 w1 (Value.slice a N cap) (Value.int .u8 2) (Value.int .i64 f) 22 80 3
  rw [hw1, hw4]
  rw [s1] at sA bA xA yA
  have lA : w4.heap[w.heap.size]? = some (Obj.cells #[Value.slice none 0 0] 46 (0, 0)) := Keep.at kA l1
  have k04 : Keep w w4 := k01.trans kA
  clear hw1 hw4 l1
  have bA' : w4.cell? ⟨w.heap.size + 1, 0, none⟩ = some (.slice a N cap) := by rw [cell_of_row _ _ 0 _ 22 (0, 0) bA]; rfl
  have xA' : w4.cell? ⟨w.heap.size + 1 + 1, 0, none⟩ = some (.int .u8 ((2 : Nat) : Int)) := by rw [cell_of_row _ _ 0 _ 80 (0, 0) xA]; rfl
  have yA' : w4.cell? ⟨w.heap.size + 1 + 1 + 1, 0, none⟩ = some (.int .i64 f) := by rw [cell_of_row _ _ 0 _ 3 (0, 0) yA]; rfl
  refine wp_rangeT h1 (gf := 68) (lb := #[.pointer (some ⟨w.heap.size + 1, 0, none⟩), .pointer (some ⟨w.heap.size + 1 + 1, 0, none⟩), .pointer (some ⟨w.heap.size + 1 + 1 + 1, 0, none⟩)]) rfl (enters_of Try.func68 (by kernel_rfl) rfl)
    (ns_seq (n - 1) (by omega) (w.heap.size + 1) (w.heap.size + 1 + 1) (w.heap.size + 1 + 1 + 1) a cap ts N hN 2 f hLn w w4 bA' xA' yA' (by omega) (by omega) (by omega) k04 hrd) (Below.refl _ _) (fun _ => rfl) (by omega) (fun g hg => by omega)
    (fun pre T W => ColF w.heap.size (w.heap.size + 1) (w.heap.size + 4) w4 (pre.map fun x => (ndV x).th) T W)
    (fun _ _ _ => False) (fun pre T A B h hst => h.st (by omega) (by omega) hst) (fun pre T A r o' h h1 h2 h3 => h.put (by omega) (by omega) (by omega) (by omega)) (fun _ _ _ _ _ h => h.elim) ?start ?a1 ?assign ?body ?done (fun _ _ _ _ h => h.elim)
  case assign =>
    intro l x W K hK
    gi_wp2
    exact hK
  case start =>
    intro W hst
    have kp : ∀ g, g < w.heap.size + 4 → W.heap[g]? = w4.heap[g]? := fun g hg => hst.block g (by omega) (fun h => h)
    refine ⟨⟨.slice none 0 0, by rw [kp _ (by omega)]; exact lA, OwnF.nil _, fun b hb => by cases hb⟩, fun g hg => by have := hst.size; omega, ?_, by have := hst.size; omega⟩
    exact ⟨hst.os, hst.tape, hst.output, by have := hst.size; omega, fun g hg => kp g (by omega)⟩
  case body =>
    rintro l pre ⟨⟨b, o, ca, cp, d⟩, hnd⟩ T W hC hpl hT hsz2
    have hbe := hC.be
    have kW : Keep w W := Below.trans (show Below w.heap.size w w4 from k04) hbe
    have x3 : W.cell? ⟨b, o + 3, none⟩ = some (.float .f64 d.th) := kW.cell hnd.c3
    have ltb := World.block_lt_of_cell? W _ x3
    simp only at ltb
    obtain ⟨v, q1, q2, q3⟩ := hC.box
    have ltB : w.heap.size < W.heap.size := (Array.getElem?_eq_some_iff.1 q1).1
    have t3 : W.cell? ⟨w.heap.size, 0, none⟩ = some v := by rw [cell_of_row W _ 0 _ 46 (0, 0) q1]; rfl
    have hnum : (pre ++ [(⟨(b, o, ca, cp, d), hnd⟩ : NdW w)]).map (fun x : NdW w => (ndV x).th) = (pre.map fun x : NdW w => (ndV x).th) ++ [d.th] := by rw [List.map_append]; rfl
    have h12 : 1 ≤ n - 1 - 1 := by omega
    have hlf : (pre.map fun x : NdW w => (ndV x).th).length + 1 ≤ 17592186044416 := by
      have h8 := congrArg List.length (nsel_thr ts f)
      rw [List.length_map] at h8 ⊢
      omega
    generalize (pre.map fun x : NdW w => (ndV x).th) = fl at hC q2 hnum hlf
    have hCd : ColF w.heap.size (w.heap.size + 1) (w.heap.size + 4) w4 fl T W.drew := ⟨⟨v, q1, q2, q3⟩, hC.tb, ⟨hbe.os, hbe.tape, hbe.output, hbe.size, hbe.block⟩, hC.sz⟩
    have hsz3 : w.heap.size + 4 + 2 ≤ W.drew.heap.size := by show w.heap.size + 4 + 2 ≤ W.heap.size; omega
    have hown2 : OwnF (W.drew.alloc (Obj.cells #[Value.float .f64 d.th] 34)) v fl := World.ownsRow.alloc (w := W.drew) q2 _
    have hnw := newsF1 W.drew d.th
    have hEnd : ∀ (v' : Value) (w5 : World), ColF w.heap.size (w.heap.size + 1) (w.heap.size + 4) w4 (fl ++ [d.th]) T (w5.setCell ⟨w.heap.size, 0, none⟩ v') → (∀ g, g < W.drew.heap.size → g ≠ w.heap.size → v.ownBlock ≠ some g → (w5.setCell ⟨w.heap.size, 0, none⟩ v').heap[g]? = W.drew.heap[g]?) → W.drew.heap.size ≤ w5.heap.size →
        ((w5.setCell ⟨w.heap.size, 0, none⟩ v').heap[w4.heap.size]? = W.heap[w4.heap.size]? ∧ (w5.setCell ⟨w.heap.size, 0, none⟩ v').heap[w4.heap.size + 1]? = W.heap[w4.heap.size + 1]?) ∧ Mk.Kpt w.heap.size T W (w5.setCell ⟨w.heap.size, 0, none⟩ v') ∧ ColF w.heap.size (w.heap.size + 1) (w.heap.size + 4) w4 ((pre ++ [(⟨(b, o, ca, cp, d), hnd⟩ : NdW w)]).map fun x : NdW w => (ndV x).th) T (w5.setCell ⟨w.heap.size, 0, none⟩ v') := by
      intro v' w5 r1 r2 r5
      refine ⟨⟨r2 _ ?_ ?_ ?_, r2 _ ?_ ?_ ?_⟩, ⟨r1.be.os.trans hbe.os.symm, r1.be.tape.trans hbe.tape.symm, r1.be.output.trans hbe.output.symm, by simp; exact r5, fun g hg h => r2 g hg ?_ ?_⟩, ?_⟩
      all_goals first | omega | (show _ < W.heap.size; omega) | (intro e; have := (q3 _ e).2; omega) | skip
      · intro e
        rcases h with h | h
        · omega
        · have := (hC.tb g h).1; omega
      · intro e
        have := q3 g e
        rcases h with h | h
        · omega
        · exact this.1 h
      · rw [hnum]; exact r1
    simp only [ndP]
    gi_wp2_with fail
    refine wpIn_region_any (by kernel_rfl) ?_
    (try (change wpAnyIn _ _ _ _ _ _ _ _ _ (World.drew _)))
    refine wpAnyIn_ready (rs := [0, 1]) (by kernel_rfl) (by simp) ?_
    refine AllReadyIn.cons rfl (fun K hK => ?_) (AllReadyIn.cons rfl (fun K hK => ?_) AllReadyIn.nil)
    · go_simp
      (refine hK _ _ ?_; clear hK K)
      refine wpAnyIn_ready (rs := [1]) (by kernel_rfl) (by simp) ?_
      refine AllReadyIn.cons rfl (fun K hK => ?_) AllReadyIn.nil
      go_simp
      (refine hK _ _ ?_; clear hK K)
      refine wpAnyIn_ready (rs := [2]) (by kernel_rfl) (by simp) ?_
      refine AllReadyIn.cons rfl (fun K hK => ?_) AllReadyIn.nil
      go_simp
      (refine hK _ _ ?_; clear hK K)
      refine wpAnyIn_ready (rs := [3]) (by kernel_rfl) (by simp) ?_
      refine AllReadyIn.cons rfl (fun K hK => ?_) AllReadyIn.nil
      go_simp
      (refine hK _ _ ?_; clear hK K)
      refine wpAnyIn_ready (rs := [4]) (by kernel_rfl) (by simp) ?_
      refine AllReadyIn.cons rfl (fun K hK => ?_) AllReadyIn.nil
      go_simp
      (refine hK _ _ ?_; clear hK K)
      refine wpAnyIn_ready (rs := [5]) (by kernel_rfl) (by simp) ?_
      refine AllReadyIn.cons rfl (fun K hK => ?_) AllReadyIn.nil
      go_simp
      (refine hK _ _ ?_; clear hK K)
      refine wpAnyIn_ready (rs := [6]) (by kernel_rfl) (by simp) ?_
      refine AllReadyIn.cons (o := ({ dst := some 17, op := Op.call { callee := Callee.builtin Builtin.append, args := #[Operand.tmp 11, Operand.tmp 16], argTypes := #[46, 46] }, type := 46, pos := "lists.go:79", after := #[{ on := 0, ground := Ground.data }, { on := 5, ground := Ground.data }], guard := none } : Oper)) rfl (fun K hK => ?_) AllReadyIn.nil
      refine stepIn_appF rfl _ _ rfl fl d.th v rfl hown2 ⟨W.heap.size, 0, none⟩ 1 rfl hnw hlf ?_
      intro v' w5 ho hgr hsep
      (refine hK _ _ ?_; clear hK K)
      (try simp only [Act.put, List.setIfInBounds_toArray, List.set_cons_zero, List.set_cons_succ])
      obtain ⟨r1, r2, r3, r4, r5⟩ := ColF.app (A := W.drew) (by omega) (by omega) hCd hsz3 q1 q3 ho hgr (by simpa using hsep)
      obtain ⟨av', cv', rfl, hcv'⟩ := ho.shape
      rw [show (fl ++ [d.th]).length = fl.length + 1 by simp] at r1 r2
      clear ho hgr hsep
      refine wpAnyIn_ready (rs := [7]) (by kernel_rfl) (by simp) ?_
      refine AllReadyIn.cons rfl (fun K hK => ?_) AllReadyIn.nil
      go_simp
      (refine hK _ _ ?_; clear hK K)
      refine wpAnyIn_done (by kernel_rfl) ?_ _
      exact hEnd _ _ r1 r2 r5
    · go_simp
      (refine hK _ _ ?_; clear hK K)
      refine wpAnyIn_ready (rs := [0, 2]) (by kernel_rfl) (by simp) ?_
      refine AllReadyIn.cons rfl (fun K hK => ?_) (AllReadyIn.cons rfl (fun K hK => ?_) AllReadyIn.nil)
      · go_simp
        (refine hK _ _ ?_; clear hK K)
        refine wpAnyIn_ready (rs := [2]) (by kernel_rfl) (by simp) ?_
        refine AllReadyIn.cons rfl (fun K hK => ?_) AllReadyIn.nil
        go_simp
        (refine hK _ _ ?_; clear hK K)
        refine wpAnyIn_ready (rs := [3]) (by kernel_rfl) (by simp) ?_
        refine AllReadyIn.cons rfl (fun K hK => ?_) AllReadyIn.nil
        go_simp
        (refine hK _ _ ?_; clear hK K)
        refine wpAnyIn_ready (rs := [4]) (by kernel_rfl) (by simp) ?_
        refine AllReadyIn.cons rfl (fun K hK => ?_) AllReadyIn.nil
        go_simp
        (refine hK _ _ ?_; clear hK K)
        refine wpAnyIn_ready (rs := [5]) (by kernel_rfl) (by simp) ?_
        refine AllReadyIn.cons rfl (fun K hK => ?_) AllReadyIn.nil
        go_simp
        (refine hK _ _ ?_; clear hK K)
        refine wpAnyIn_ready (rs := [6]) (by kernel_rfl) (by simp) ?_
        refine AllReadyIn.cons (o := ({ dst := some 17, op := Op.call { callee := Callee.builtin Builtin.append, args := #[Operand.tmp 11, Operand.tmp 16], argTypes := #[46, 46] }, type := 46, pos := "lists.go:79", after := #[{ on := 0, ground := Ground.data }, { on := 5, ground := Ground.data }], guard := none } : Oper)) rfl (fun K hK => ?_) AllReadyIn.nil
        refine stepIn_appF rfl _ _ rfl fl d.th v rfl hown2 ⟨W.heap.size, 0, none⟩ 1 rfl hnw hlf ?_
        intro v' w5 ho hgr hsep
        (refine hK _ _ ?_; clear hK K)
        (try simp only [Act.put, List.setIfInBounds_toArray, List.set_cons_zero, List.set_cons_succ])
        obtain ⟨r1, r2, r3, r4, r5⟩ := ColF.app (A := W.drew) (by omega) (by omega) hCd hsz3 q1 q3 ho hgr (by simpa using hsep)
        obtain ⟨av', cv', rfl, hcv'⟩ := ho.shape
        rw [show (fl ++ [d.th]).length = fl.length + 1 by simp] at r1 r2
        clear ho hgr hsep
        refine wpAnyIn_ready (rs := [7]) (by kernel_rfl) (by simp) ?_
        refine AllReadyIn.cons rfl (fun K hK => ?_) AllReadyIn.nil
        go_simp
        (refine hK _ _ ?_; clear hK K)
        refine wpAnyIn_done (by kernel_rfl) ?_ _
        exact hEnd _ _ r1 r2 r5
      · go_simp
        (refine hK _ _ ?_; clear hK K)
        refine wpAnyIn_ready (rs := [0, 3]) (by kernel_rfl) (by simp) ?_
        refine AllReadyIn.cons rfl (fun K hK => ?_) (AllReadyIn.cons rfl (fun K hK => ?_) AllReadyIn.nil)
        · go_simp
          (refine hK _ _ ?_; clear hK K)
          refine wpAnyIn_ready (rs := [3]) (by kernel_rfl) (by simp) ?_
          refine AllReadyIn.cons rfl (fun K hK => ?_) AllReadyIn.nil
          go_simp
          (refine hK _ _ ?_; clear hK K)
          refine wpAnyIn_ready (rs := [4]) (by kernel_rfl) (by simp) ?_
          refine AllReadyIn.cons rfl (fun K hK => ?_) AllReadyIn.nil
          go_simp
          (refine hK _ _ ?_; clear hK K)
          refine wpAnyIn_ready (rs := [5]) (by kernel_rfl) (by simp) ?_
          refine AllReadyIn.cons rfl (fun K hK => ?_) AllReadyIn.nil
          go_simp
          (refine hK _ _ ?_; clear hK K)
          refine wpAnyIn_ready (rs := [6]) (by kernel_rfl) (by simp) ?_
          refine AllReadyIn.cons (o := ({ dst := some 17, op := Op.call { callee := Callee.builtin Builtin.append, args := #[Operand.tmp 11, Operand.tmp 16], argTypes := #[46, 46] }, type := 46, pos := "lists.go:79", after := #[{ on := 0, ground := Ground.data }, { on := 5, ground := Ground.data }], guard := none } : Oper)) rfl (fun K hK => ?_) AllReadyIn.nil
          refine stepIn_appF rfl _ _ rfl fl d.th v rfl hown2 ⟨W.heap.size, 0, none⟩ 1 rfl hnw hlf ?_
          intro v' w5 ho hgr hsep
          (refine hK _ _ ?_; clear hK K)
          (try simp only [Act.put, List.setIfInBounds_toArray, List.set_cons_zero, List.set_cons_succ])
          obtain ⟨r1, r2, r3, r4, r5⟩ := ColF.app (A := W.drew) (by omega) (by omega) hCd hsz3 q1 q3 ho hgr (by simpa using hsep)
          obtain ⟨av', cv', rfl, hcv'⟩ := ho.shape
          rw [show (fl ++ [d.th]).length = fl.length + 1 by simp] at r1 r2
          clear ho hgr hsep
          refine wpAnyIn_ready (rs := [7]) (by kernel_rfl) (by simp) ?_
          refine AllReadyIn.cons rfl (fun K hK => ?_) AllReadyIn.nil
          go_simp
          (refine hK _ _ ?_; clear hK K)
          refine wpAnyIn_done (by kernel_rfl) ?_ _
          exact hEnd _ _ r1 r2 r5
        · go_simp
          (refine hK _ _ ?_; clear hK K)
          refine wpAnyIn_ready (rs := [0, 4]) (by kernel_rfl) (by simp) ?_
          refine AllReadyIn.cons rfl (fun K hK => ?_) (AllReadyIn.cons rfl (fun K hK => ?_) AllReadyIn.nil)
          · go_simp
            (refine hK _ _ ?_; clear hK K)
            refine wpAnyIn_ready (rs := [4]) (by kernel_rfl) (by simp) ?_
            refine AllReadyIn.cons rfl (fun K hK => ?_) AllReadyIn.nil
            go_simp
            (refine hK _ _ ?_; clear hK K)
            refine wpAnyIn_ready (rs := [5]) (by kernel_rfl) (by simp) ?_
            refine AllReadyIn.cons rfl (fun K hK => ?_) AllReadyIn.nil
            go_simp
            (refine hK _ _ ?_; clear hK K)
            refine wpAnyIn_ready (rs := [6]) (by kernel_rfl) (by simp) ?_
            refine AllReadyIn.cons (o := ({ dst := some 17, op := Op.call { callee := Callee.builtin Builtin.append, args := #[Operand.tmp 11, Operand.tmp 16], argTypes := #[46, 46] }, type := 46, pos := "lists.go:79", after := #[{ on := 0, ground := Ground.data }, { on := 5, ground := Ground.data }], guard := none } : Oper)) rfl (fun K hK => ?_) AllReadyIn.nil
            refine stepIn_appF rfl _ _ rfl fl d.th v rfl hown2 ⟨W.heap.size, 0, none⟩ 1 rfl hnw hlf ?_
            intro v' w5 ho hgr hsep
            (refine hK _ _ ?_; clear hK K)
            (try simp only [Act.put, List.setIfInBounds_toArray, List.set_cons_zero, List.set_cons_succ])
            obtain ⟨r1, r2, r3, r4, r5⟩ := ColF.app (A := W.drew) (by omega) (by omega) hCd hsz3 q1 q3 ho hgr (by simpa using hsep)
            obtain ⟨av', cv', rfl, hcv'⟩ := ho.shape
            rw [show (fl ++ [d.th]).length = fl.length + 1 by simp] at r1 r2
            clear ho hgr hsep
            refine wpAnyIn_ready (rs := [7]) (by kernel_rfl) (by simp) ?_
            refine AllReadyIn.cons rfl (fun K hK => ?_) AllReadyIn.nil
            go_simp
            (refine hK _ _ ?_; clear hK K)
            refine wpAnyIn_done (by kernel_rfl) ?_ _
            exact hEnd _ _ r1 r2 r5
          · go_simp
            (refine hK _ _ ?_; clear hK K)
            refine wpAnyIn_ready (rs := [0, 5]) (by kernel_rfl) (by simp) ?_
            refine AllReadyIn.cons rfl (fun K hK => ?_) (AllReadyIn.cons rfl (fun K hK => ?_) AllReadyIn.nil)
            · go_simp
              (refine hK _ _ ?_; clear hK K)
              refine wpAnyIn_ready (rs := [5]) (by kernel_rfl) (by simp) ?_
              refine AllReadyIn.cons rfl (fun K hK => ?_) AllReadyIn.nil
              go_simp
              (refine hK _ _ ?_; clear hK K)
              refine wpAnyIn_ready (rs := [6]) (by kernel_rfl) (by simp) ?_
              refine AllReadyIn.cons (o := ({ dst := some 17, op := Op.call { callee := Callee.builtin Builtin.append, args := #[Operand.tmp 11, Operand.tmp 16], argTypes := #[46, 46] }, type := 46, pos := "lists.go:79", after := #[{ on := 0, ground := Ground.data }, { on := 5, ground := Ground.data }], guard := none } : Oper)) rfl (fun K hK => ?_) AllReadyIn.nil
              refine stepIn_appF rfl _ _ rfl fl d.th v rfl hown2 ⟨W.heap.size, 0, none⟩ 1 rfl hnw hlf ?_
              intro v' w5 ho hgr hsep
              (refine hK _ _ ?_; clear hK K)
              (try simp only [Act.put, List.setIfInBounds_toArray, List.set_cons_zero, List.set_cons_succ])
              obtain ⟨r1, r2, r3, r4, r5⟩ := ColF.app (A := W.drew) (by omega) (by omega) hCd hsz3 q1 q3 ho hgr (by simpa using hsep)
              obtain ⟨av', cv', rfl, hcv'⟩ := ho.shape
              rw [show (fl ++ [d.th]).length = fl.length + 1 by simp] at r1 r2
              clear ho hgr hsep
              refine wpAnyIn_ready (rs := [7]) (by kernel_rfl) (by simp) ?_
              refine AllReadyIn.cons rfl (fun K hK => ?_) AllReadyIn.nil
              go_simp
              (refine hK _ _ ?_; clear hK K)
              refine wpAnyIn_done (by kernel_rfl) ?_ _
              exact hEnd _ _ r1 r2 r5
            · go_simp
              (refine hK _ _ ?_; clear hK K)
              refine wpAnyIn_ready (rs := [0]) (by kernel_rfl) (by simp) ?_
              refine AllReadyIn.cons rfl (fun K hK => ?_) AllReadyIn.nil
              go_simp
              (refine hK _ _ ?_; clear hK K)
              refine wpAnyIn_ready (rs := [6]) (by kernel_rfl) (by simp) ?_
              refine AllReadyIn.cons (o := ({ dst := some 17, op := Op.call { callee := Callee.builtin Builtin.append, args := #[Operand.tmp 11, Operand.tmp 16], argTypes := #[46, 46] }, type := 46, pos := "lists.go:79", after := #[{ on := 0, ground := Ground.data }, { on := 5, ground := Ground.data }], guard := none } : Oper)) rfl (fun K hK => ?_) AllReadyIn.nil
              refine stepIn_appF rfl _ _ rfl fl d.th v rfl hown2 ⟨W.heap.size, 0, none⟩ 1 rfl hnw hlf ?_
              intro v' w5 ho hgr hsep
              (refine hK _ _ ?_; clear hK K)
              (try simp only [Act.put, List.setIfInBounds_toArray, List.set_cons_zero, List.set_cons_succ])
              obtain ⟨r1, r2, r3, r4, r5⟩ := ColF.app (A := W.drew) (by omega) (by omega) hCd hsz3 q1 q3 ho hgr (by simpa using hsep)
              obtain ⟨av', cv', rfl, hcv'⟩ := ho.shape
              rw [show (fl ++ [d.th]).length = fl.length + 1 by simp] at r1 r2
              clear ho hgr hsep
              refine wpAnyIn_ready (rs := [7]) (by kernel_rfl) (by simp) ?_
              refine AllReadyIn.cons rfl (fun K hK => ?_) AllReadyIn.nil
              go_simp
              (refine hK _ _ ?_; clear hK K)
              refine wpAnyIn_done (by kernel_rfl) ?_ _
              exact hEnd _ _ r1 r2 r5
  case done =>
    rintro xs' T W hxs hC hD
    have hfl : (xs'.map fun x : NdW w => (ndV x).th) = thr ts f := by
      rw [← nsel_thr, ← hxs, List.map_map]
      rfl
    rw [hfl] at hC
    obtain ⟨v, q1, q2, q3⟩ := hC.box
    have t3 : W.cell? ⟨w.heap.size, 0, none⟩ = some v := by rw [cell_of_row W _ 0 _ 46 (0, 0) q1]; rfl
    obtain ⟨av, cv, rfl, hrv⟩ := q2.rd
    have hb1 : Below w.heap.size w W := Below.trans (show Below w.heap.size w w4 from k04) hC.be
    have hszW := hC.sz
    have hDs := Distinct_any av cv (thr ts f).length (thr ts f) W hF rfl hsz hrv
    rw [sA] at hD ⊢
    obtain ⟨fln, hfln⟩ : ∃ fln, (thr ts f).length = fln := ⟨_, rfl⟩
    rw [hfln] at hDs t3
    clear hfl hxs q2 q1 hrv
    gi_wp2_with fail
    refine ⟨trivial, ?_⟩
    refine (callsIn_wide.2 hDs).mono ?_
    rintro e w6 ⟨g, cp, D, rfl, hDst, hrow, k6⟩
    have hD6 : w6.heap[w.heap.size + 1 + 3]? = some (.deferred (some [])) := Keep.at k6 hD
    gi_wp2_with fail
    refine ⟨by simp, .inl ⟨_, _, rfl, run_takeDeferred hD6, ?_⟩⟩
    refine ⟨_, results_tmp rfl _ _ _, g, cp, D, rfl, hDst, ?_, ?_⟩
    · have hr2 : w6.ownsRow w.heap.size 34 1 (.slice (some ⟨g, 0, none⟩) D.length cp) D.length (UF D) := Mk.own_mono hrow (by have := hb1.size; omega)
      exact own_putO hrow hr2 (Array.getElem?_eq_some_iff.1 hD).1
    · have hb6 : Below w.heap.size w w6 := Below.trans hb1 (Below.mono (show Below W.heap.size W w6 from k6) hb1.size)
      exact hb6.trans (belowK_b (w := w) (Nat.le_refl _) w6 (w.heap.size + 1 + 3) _ _ (by omega) hD6 rfl rfl)
/-- The distinct thresholds of a feature. -/
theorem Thr_any (a : Option Addr) (cap : Nat) (ts : List (Int × List Nd)) (N : Nat) (hN : ts.length = N) (f : Int) (hLn : N ≤ 4398046511104) (w : World) (hrd : RdT w a ts) (hsz : (thr ts f).length ≤ 17592186044414) :
    Calls Try.prog 27 #[.slice a N cap, .int .i64 f] w fun e w' => ∃ g cp D, e = .returned (.slice (some ⟨g, 0, none⟩) (D : List Nat).length cp) ∧ Dst (thr ts f) D ∧ w'.ownsRow w.heap.size 34 1 (.slice (some ⟨g, 0, none⟩) D.length cp) D.length (UF D) ∧ Keep w w' :=
  (callsIn_wide (n := 3)).1 (Thr_in 3 (by omega) a cap ts N hN f hLn w hrd hsz)
end Go.Proofs.Ytaogjiffnebnkaa
set_option linter.unusedVariables false
set_option linter.unusedSimpArgs false
namespace Go.Proofs.Ytaogjiffnebnkaa
open Go.RowKit Go.Shelf Go.Maps
theorem nodupN : ∀ {a b : List Nat}, a.Nodup → a ⊆ b → a.length ≤ b.length
  | [], b, _, _ => Nat.zero_le _
  | x :: a, b, hn, hs => by
    obtain ⟨h1, h2⟩ := List.nodup_cons.1 hn
    have hx : x ∈ b := hs List.mem_cons_self
    have h3 : a ⊆ b.erase x := by
      intro y hy
      refine (List.mem_erase_of_ne ?_).2 (hs (List.mem_cons_of_mem _ hy))
      intro e; rw [e] at hy; exact h1 hy
    have h4 := nodupN h2 h3
    rw [List.length_erase_of_mem hx] at h4
    have h5 : 0 < b.length := List.length_pos_of_mem hx
    simp only [List.length_cons]
    omega
theorem bt_pre_len : ∀ (b : Mk.BT), b.pre.length + 1 = 2 * b.nl
  | .leaf i => rfl
  | .node i l r => by
    have h1 := bt_pre_len l
    have h2 := bt_pre_len r
    simp only [Mk.BT.pre, Mk.BT.nl, List.length_cons, List.length_append]
    omega
/-- A right tree has 8191 nodes at most. -/
theorem tr_len {L : List Nd} (h : trE L = 0) : L.length ≤ 8191 := by
  obtain ⟨-, hR, hT, b, hb, -, hn⟩ := Mk.lvE_ok h
  have h1 : (List.range (L.map Nd.m).length) ⊆ b.pre := by
    intro i hi
    rw [List.mem_range] at hi
    rw [← Mk.ord_bt hT hb]
    exact (Mk.ord_mem hT.wi i).2 (hT.re i hi)
  have h2 := nodupN List.nodup_range h1
  rw [List.length_range, List.length_map] at h2
  have h3 := bt_pre_len b
  omega
theorem IsL.ns_ok {S : List (Nd × Ct)} {T : List Lst} (h : IsL S T) {R : Ct → Prop} (hR : ∀ s ∈ S, R s.2) {t : Lst} (ht : t ∈ T) : (∀ c ∈ t.ns, R c) ∧ t.ns.length ≤ S.length := by
  have hq := (h.ns t ht).2
  refine ⟨fun c hc => ?_, ?_⟩
  · have hm := hq.mem hc
    unfold sel at hm
    obtain ⟨s, hs, rfl⟩ := List.mem_map.1 hm
    exact hR s (List.mem_filter.1 hs).1
  · rw [eqv.len hq]
    unfold sel
    rw [List.length_map]
    exact List.length_filter_le _ _
/-- Where the group of that number begins. -/
def atG (G : List (Nat × Nat × Nat)) (j : Nat) : Nat := if j = 0 then 0 else (G.getD (j - 1) gt0).2.2
def leqF (x y : Nat) : Bool := FloatKind.f64.format.order x y == some .lt || FloatKind.f64.format.order x y == some .eq
theorem leqF_key {x y : Nat} (x64 : x < 18446744073709551616) (y64 : y < 18446744073709551616) (hx : ¬ isNaN x) (hy : ¬ isNaN y) : leqF x y = decide (key x ≤ key y) := by
  have := leq_key (x := ⟨x, [], 0, 0, 0⟩) (y := ⟨y, [], 0, 0, 0⟩) ⟨x64, hx⟩ ⟨y64, hy⟩
  unfold leqF
  rw [this]
  unfold kC
  rw [decide_eq_decide]
  simp only
  omega
theorem atG_next (G : List (Nat × Nat × Nat)) (j : Nat) : atG G (j + 1) = (G.getD j gt0).2.2 := rfl
/-- One group. -/
theorem Grp.at {L : List Ct} {G : List (Nat × Nat × Nat)} (h : Grp L L.length G) {j : Nat} (hj : j < G.length) : (G.getD j gt0).2.1 = atG G j ∧ atG G j < (G.getD j gt0).2.2 ∧ (0 < j → leqF (G.getD j gt0).1 (G.getD (j - 1) gt0).1 = false) := by
  obtain ⟨r1, r2⟩ := h.row j hj
  refine ⟨r1, by unfold atG; rw [← r1]; exact r2, fun h0 => ?_⟩
  have e1 : G.getD j gt0 = G[j] := by simp [List.getD, hj]
  have e2 : G.getD (j - 1) gt0 = G[j - 1] := by simp [List.getD, show j - 1 < G.length by omega]
  rw [e1, e2]
  obtain ⟨a1, a2⟩ := h.ok _ (List.getElem_mem hj)
  obtain ⟨b1, b2⟩ := h.ok _ (List.getElem_mem (show j - 1 < G.length by omega))
  rw [leqF_key a1 b1 a2 b2]
  have := List.pairwise_iff_getElem.1 h.rise (j - 1) j (by omega) hj (by omega)
  exact decide_eq_false (by omega)
theorem Grp.fin {L : List Ct} {G : List (Nat × Nat × Nat)} (h : Grp L L.length G) : atG G G.length = L.length := by
  have := h.last
  unfold atG
  exact this
theorem rowF_at {w : World} {B g n c : Nat} {D : List Nat} (h : w.ownsRow B 34 1 (.slice (some ⟨g, 0, none⟩) n c) D.length (UF D)) (hn : n = D.length) : ∀ j, j < D.length → w.cell? ⟨g, j, none⟩ = some (.float .f64 (D.getD j 0)) := by
  subst hn
  have hO : OwnF w (.slice (some ⟨g, 0, none⟩) D.length c) D := Mk.own_mono h (Nat.zero_le _)
  intro j hj
  obtain ⟨g', cap, e, -, -, hc⟩ := hO.cells (by omega)
  simp only [Value.slice.injEq, Option.some.injEq, Addr.mk.injEq] at e
  rw [e.1.1]
  exact hc j hj
end Go.Proofs.Ytaogjiffnebnkaa
