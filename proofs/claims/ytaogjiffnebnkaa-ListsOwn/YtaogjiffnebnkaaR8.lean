import Derived.Test.YtaogjiffnebnkaaR6
set_option linter.unusedVariables false
set_option linter.unusedSimpArgs false
namespace Go.Proofs.Ytaogjiffnebnkaa
open Go.RowKit Go.Shelf Go.Maps
/-- Lists of one's own. -/
def OwnL (B : Nat) (w : World) (v : Value) (l : List Li) : Prop := w.ownsRow B 33 4 v l.length (UL l)
theorem OwnL.nil (B : Nat) (w : World) : OwnL B w (.slice none 0 0) [] := ⟨rfl, .inl ⟨rfl, rfl⟩⟩
theorem OwnL.same {B : Nat} {w w' : World} {v : Value} {l : List Li} (h : OwnL B w v l) (k : ∀ b, v.ownBlock = some b → w'.heap[b]? = w.heap[b]?) : OwnL B w' v l := by
  refine ⟨h.1, ?_⟩
  rcases h.2 with h2 | ⟨g, cap, cur, hv, hg, hh, r⟩
  · exact .inl h2
  · exact .inr ⟨g, cap, cur, hv, hg, by rw [k g (by rw [hv]; rfl)]; exact hh, r⟩
theorem OwnL.block {B : Nat} {w : World} {v : Value} {l : List Li} (h : OwnL B w v l) {b : Nat} (hb : v.ownBlock = some b) : B ≤ b ∧ ∃ cur, w.heap[b]? = some (.cells cur 33 (0, 0)) := by
  rcases h.2 with ⟨h1, _⟩ | ⟨g, cap, cur, hv, hg, hh, r⟩
  · rw [h1] at hb; cases hb
  · rw [hv] at hb
    have hb : some g = some b := hb
    cases hb
    exact ⟨hg, cur, hh⟩
theorem i33 : (Try.prog.info? 33).map (fun i => (i.zero, i.size, i.bytes)) = some (some (.agg #[.int .i64 0, .slice none 0 0, .slice none 0 0, .slice none 0 0]), 4, 80) := by kernel_rfl
theorem appL_sep (B : Nat) (w : World) (ty : Nat) (v : Value) (l : List Li) (y : Li) (hown : OwnL B w v l) (hB : B ≤ w.heap.size) (ad : Addr) (c : Nat) (hnews : ∀ j u, (UL [y])[j]? = some u → w.cell? (ad.add j) = some u) (hlen : l.length + 1 ≤ 1099511627776) :
    ∃ v' w', (Builtin.append_ #[24, 24] ty #[v, .slice (some ad) 1 c]).run Try.prog w = .ok v' w' ∧ OwnL B w' v' (l ++ [y]) ∧ w.grownBy w' v.ownBlock ∧ (v'.ownBlock = v.ownBlock ∨ v'.ownBlock = some w.heap.size) := by
  obtain ⟨i0, hi, hz0, hz1, hz2⟩ := info_parts i33
  have h1 : ∀ u ∈ UL [y], u.oneCell' = true := UL_one _
  have hl : (UL [y]).length = 1 * 4 := by rw [UL_length]; rfl
  obtain ⟨v', w', hr, h2, h3, -⟩ := run_append_own (P := Try.prog) w B 24 ty 33 i0 _ 4 80 Try.underlying24 hi hz0 hz1 hz2 rfl (by decide) v _ _ hown ad 1 c (UL [y]) hl hnews h1 (by simp only [maxLen]; omega) (by omega) hB
  refine ⟨v', w', hr, ?_, h3, ?_⟩
  · unfold OwnL; rw [List.length_append, UL_append]; exact h2
  rcases hown.2 with ⟨rfl, hn⟩ | ⟨g, cap, cur, rfl, hbg, hg, hnc, hcm, hcs, htake⟩
  · have e := run_append_nil (P := Try.prog) w 24 ty 33 i0 _ Try.underlying24 hi hz0 ad 1 c (UL [y]) (by rw [hz1]; exact hl) hnews (by omega) (by omega) (by rw [hz2]; omega)
    rw [hr] at e
    simp only [Result.ok.injEq] at e
    rw [e.1]
    exact .inr rfl
  · by_cases hroom : l.length + 1 ≤ cap
    · have e := run_append_room (P := Try.prog) w 24 ty 33 i0 Try.underlying24 hi g l.length cap cur hg ad 1 c (UL [y]) (by rw [hz1]; exact hl) hnews h1 hroom (by rw [hz1, UL_length]; simp; omega)
      rw [hr] at e
      simp only [Result.ok.injEq] at e
      rw [e.1]
      exact .inl rfl
    · have holds : ∀ j u, (UL l)[j]? = some u → w.cell? ((⟨g, 0, none⟩ : Addr).add j) = some u := World.ownsRow.cells (v := .slice (some ⟨g, 0, none⟩) l.length cap) hown (g := g) rfl
      have e := run_append_grow (P := Try.prog) w 24 ty 33 i0 _ Try.underlying24 hi hz0 ⟨g, 0, none⟩ l.length cap (UL l) (by rw [hz1, UL_length]) holds ad 1 c (UL [y]) (by rw [hz1]; exact hl) hnews (by omega) (by omega) (growslice_fits (by omega) (by rw [hz2]; omega))
      rw [hr] at e
      simp only [Result.ok.injEq] at e
      rw [e.1]
      exact .inr rfl
/-- append(l, list). -/
theorem wpList_appL (B : Nat) (w : World) {ops : Array Oper} {rest : List Oper} {o : Oper} {a : Act} {Q : Exit → Act → World → Prop} (hgd : o.guard = none) (s x : Operand)
    (hop : o.op = .call { callee := .builtin .append, args := #[s, x], argTypes := #[24, 24] }) (l : List Li) (y : Li) (v : Value) (hs : a.eval s = v) (hown : OwnL B w v l) (hB : B ≤ w.heap.size) (ad : Addr) (c : Nat) (hx : a.eval x = .slice (some ad) 1 c)
    (hnews : ∀ j u, (UL [y])[j]? = some u → w.cell? (ad.add j) = some u) (hlen : l.length + 1 ≤ 1099511627776)
    (hK : ∀ v' w', OwnL B w' v' (l ++ [y]) → w.grownBy w' v.ownBlock → (v'.ownBlock = v.ownBlock ∨ v'.ownBlock = some w.heap.size) → wpList Try.prog ops Q rest (a.put o.dst v') w') :
    wpList Try.prog ops Q (o :: rest) a w := by
  refine wpList_plain hgd fun K hK' => ?_
  obtain ⟨v', w', hrun, r1, r2, r3⟩ := appL_sep B w o.type v l y hown hB ad c hnews hlen
  unfold Oper.wp
  simp [execOp, hop, resolve, invoke, builtin, hs, hx, hrun, Result.andThen]
  exact hK' _ _ (hK v' w' r1 r2 r3)
theorem newsL (W : World) (n : Nat) (hn : W.heap.size = n) (y : Li) : ∀ j u, (UL [y])[j]? = some u → (W.alloc (Obj.cells #[.int .i64 y.ft, .slice y.na y.nl y.nc, .slice y.ca y.cl y.cc, .slice y.la y.ll y.lc] 33)).cell? ((⟨n, 0, none⟩ : Addr).add j) = some u := by
  subst hn
  intro j u hj
  rw [Go.WideShapes.add_plain, Nat.zero_add, cell_of_row _ _ _ _ 33 (0, 0) (heap_alloc_new W _)]
  simpa [UL] using hj
/-- A row of cuts that can be read and set in order. -/
def WrC (B : Nat) (w : World) (v : Value) (K : List CI) : Prop := (v = .slice none 0 0 ∧ K = []) ∨ ∃ g cap, ∃ cur : Array Value, v = .slice (some ⟨g, 0, none⟩) K.length cap ∧ B ≤ g ∧ w.heap[g]? = some (.cells cur 57 (0, 0)) ∧ K.length ≤ cap ∧ cur.toList.take (K.length * 5) = UC K
theorem OwnC.wr {B : Nat} {w : World} {v : Value} {K : List CI} (h : OwnC B w v K) : WrC B w v K := by
  rcases h.2 with ⟨h1, h2⟩ | ⟨g, cap, cur, hv, hg, hh, h1, h2, h3, h4⟩
  · exact .inl ⟨h1, List.eq_nil_of_length_eq_zero h2⟩
  · exact .inr ⟨g, cap, cur, hv, hg, hh, h1, h4⟩
theorem WrC.same {B : Nat} {w w' : World} {v : Value} {K : List CI} (h : WrC B w v K) (k : ∀ b, v.ownBlock = some b → w'.heap[b]? = w.heap[b]?) : WrC B w' v K := by
  rcases h with h | ⟨g, cap, cur, hv, hg, hh, r⟩
  · exact .inl h
  · exact .inr ⟨g, cap, cur, hv, hg, by rw [k g (by rw [hv]; rfl)]; exact hh, r⟩
theorem WrC.block {B : Nat} {w : World} {v : Value} {K : List CI} (h : WrC B w v K) {b : Nat} (hb : v.ownBlock = some b) : B ≤ b ∧ ∃ cur : Array Value, w.heap[b]? = some (.cells cur 57 (0, 0)) := by
  rcases h with ⟨h1, -⟩ | ⟨g, cap, cur, hv, hg, hh, r⟩
  · rw [h1] at hb; cases hb
  · rw [hv] at hb
    have hb : some g = some b := hb
    cases hb
    exact ⟨hg, cur, hh⟩
theorem WrC.slice {B : Nat} {w : World} {v : Value} {K : List CI} (h : WrC B w v K) : ∃ a c, v = .slice a K.length c := by
  rcases h with ⟨h1, rfl⟩ | ⟨g, cap, cur, hv, -⟩
  · exact ⟨none, 0, h1⟩
  · exact ⟨_, _, hv⟩
/-- What is gathered, the numbers of some features set in order. -/
def GX.wth (X : GX) (M : Nat → List CI) : GX := ⟨X.n, X.f, X.bx, X.v, fun i j => if j = 0 then M i else X.K i j⟩
structure GW (B : Nat) (w : World) (X : GX) : Prop where
  box : ∀ i, i < X.n → B ≤ X.bx i ∧ w.heap[X.bx i]? = some (.cells #[.int .i64 (X.f i), X.v i 0, X.v i 1, X.v i 2] 33 (0, 0))
  row : ∀ i, i < X.n → ∀ j, j < 3 → WrC B w (X.v i j) (X.K i j)
  cat : ∀ i, i < X.n → ∀ j, j < 3 → ∀ r ∈ X.K i j, OwnZ 3 B w (.slice r.2.1 r.1.cs.length r.2.2) r.1.cs ∧ r.1.cs.length ≤ 17592186044416
  ap : ∀ i j i' j', i < X.n → i' < X.n → j < 3 → j' < 3 → (i ≠ i' ∨ j ≠ j') → ∀ b, (X.v i j).ownBlock = some b → (X.v i' j').ownBlock ≠ some b
theorem GI.gw {B : Nat} {w : World} {mb : Nat} {X : GX} (h : GI B w mb X) : GW B w (X.wth fun i => X.K i 0) := by
  have e : ∀ i j, (X.wth fun i => X.K i 0).K i j = X.K i j := by
    intro i j
    simp only [GX.wth]
    split
    · rename_i q; rw [q]
    · rfl
  refine ⟨h.box, fun i hi j hj => ?_, fun i hi j hj r hr => ?_, h.ap⟩
  · rw [e]; exact (h.row i hi j hj).wr
  · rw [e] at hr; exact h.cat i hi j hj r hr
/-- What may be written while it stands. -/
theorem GW.same {B : Nat} {w w' : World} {X : GX} (h : GW B w X) (k : ∀ (b : Nat) (cur : Array Value) (ty : TypeId), w.heap[b]? = some (Obj.cells cur ty (0, 0)) → (ty = 33 → ∃ i, i < X.n ∧ X.bx i = b) → w'.heap[b]? = some (Obj.cells cur ty (0, 0))) : GW B w' X := by
  refine ⟨fun i hi => ⟨(h.box i hi).1, k _ _ _ (h.box i hi).2 (fun _ => ⟨i, hi, rfl⟩)⟩, fun i hi j hj => (h.row i hi j hj).same fun b hb => ?_, fun i hi j hj r hr => ⟨(h.cat i hi j hj r hr).1.same fun b hb => ?_, (h.cat i hi j hj r hr).2⟩, h.ap⟩
  · obtain ⟨-, c2, hc⟩ := (h.row i hi j hj).block hb
    exact (k b c2 57 hc (fun q => by cases q)).trans hc.symm
  · obtain ⟨-, c2, hc⟩ := (h.cat i hi j hj r hr).1.block hb
    exact (k b c2 3 hc (fun q => by cases q)).trans hc.symm
end Go.Proofs.Ytaogjiffnebnkaa
set_option linter.unusedVariables false
set_option linter.unusedSimpArgs false
namespace Go.Proofs.Ytaogjiffnebnkaa
open Go.RowKit Go.Shelf Go.Maps
def upd (M : Nat → List CI) (i : Nat) (N : List CI) : Nat → List CI := fun i' => if i' = i then N else M i'
theorem GW.srt {B : Nat} {w w' : World} {X : GX} {M : Nat → List CI} (h : GW B w (X.wth M)) {i : Nat} (hi : i < X.n) {N : List CI} {g cap : Nat} (hv : X.v i 0 = .slice (some ⟨g, 0, none⟩) N.length cap) (hg : B ≤ g) {cur : Array Value} (hw : w'.heap[g]? = some (.cells cur 57 (0, 0))) (hcap : N.length ≤ cap) (hcur : cur.toList.take (N.length * 5) = UC N)
    (hm : ∀ x ∈ N, x ∈ M i) (hgw : ∃ c2 : Array Value, w.heap[g]? = some (.cells c2 57 (0, 0))) (ho : ∀ k, k < w.heap.size → k ≠ g → w'.heap[k]? = w.heap[k]?) : GW B w' (X.wth (upd M i N)) := by
  obtain ⟨c2, hc2⟩ := hgw
  have hk : ∀ (b : Nat) (cur : Array Value) (ty : TypeId), w.heap[b]? = some (Obj.cells cur ty (0, 0)) → b ≠ g → w'.heap[b]? = some (Obj.cells cur ty (0, 0)) := fun b cur ty hb hne => (ho b (Array.getElem?_eq_some_iff.1 hb).1 hne).trans hb
  have hcat : ∀ {r : CI}, OwnZ 3 B w (.slice r.2.1 r.1.cs.length r.2.2) r.1.cs → OwnZ 3 B w' (.slice r.2.1 r.1.cs.length r.2.2) r.1.cs := by
    intro r hr
    refine hr.same fun b hb => ?_
    obtain ⟨-, c3, hc⟩ := hr.block hb
    exact (hk b c3 3 hc (fun q => by rw [q, hc2] at hc; simp at hc)).trans hc.symm
  refine ⟨?_, ?_, ?_, h.ap⟩
  · intro i' hi'
    have hb := (h.box i' hi').2
    exact ⟨(h.box i' hi').1, hk _ _ _ hb (fun q => by have q' : (X.wth M).bx i' = g := q; rw [q', hc2] at hb; simp at hb)⟩
  · intro i' hi' j hj
    by_cases e : i' = i ∧ j = 0
    · obtain ⟨rfl, rfl⟩ := e
      refine .inr ⟨g, cap, cur, ?_, hg, hw, ?_, ?_⟩
      · simp only [GX.wth, upd, if_pos]; exact hv
      · simp only [GX.wth, upd, if_pos]; exact hcap
      · simp only [GX.wth, upd, if_pos]; exact hcur
    · have hK : (X.wth (upd M i N)).K i' j = (X.wth M).K i' j := by
        simp only [GX.wth, upd]
        by_cases q : j = 0
        · rw [if_pos q, if_pos q, if_neg (fun r => e ⟨r, q⟩)]
        · rw [if_neg q, if_neg q]
      rw [hK]
      refine (h.row i' hi' j hj).same fun b hb => ?_
      obtain ⟨-, c3, hc⟩ := (h.row i' hi' j hj).block hb
      refine (hk b c3 57 hc (fun q => ?_)).trans hc.symm
      refine h.ap i' j i 0 hi' hi hj (by omega) (by omega) b hb ?_
      show (X.v i 0).ownBlock = some b
      rw [hv, q]; rfl
  · intro i' hi' j hj r hr
    by_cases e : i' = i ∧ j = 0
    · obtain ⟨rfl, rfl⟩ := e
      have hr2 : r ∈ N := by simpa [GX.wth, upd] using hr
      have := h.cat i' hi 0 hj r (by show r ∈ M i'; exact hm r hr2)
      exact ⟨hcat this.1, this.2⟩
    · have hK : (X.wth (upd M i N)).K i' j = (X.wth M).K i' j := by
        simp only [GX.wth, upd]
        by_cases q : j = 0
        · rw [if_pos q, if_pos q, if_neg (fun r => e ⟨r, q⟩)]
        · rw [if_neg q, if_neg q]
      rw [hK] at hr
      have := h.cat i' hi' j hj r hr
      exact ⟨hcat this.1, this.2⟩
theorem upd_self (M : Nat → List CI) (i : Nat) : upd M i (M i) = M := by
  funext i'
  unfold upd
  split
  · rename_i q; rw [q]
  · rfl
/-- One feature's numbers, set in order. -/
theorem sortRow_any {B : Nat} {w : World} {X : GX} {M : Nat → List CI} (h : GW B w (X.wth M)) {i : Nat} (hi : i < X.n) (hF : Cu.F64 (M i)) (hl : (M i).length ≤ 17592186044416) :
    Calls Try.prog 53 #[X.v i 0, .func (.func 54) #[] #[]] w fun e w' => (∃ v, e = .returned v) ∧ ∃ N, srt Cu.kI N ∧ eqv Cu.kI N (M i) ∧ GW B w' (X.wth (upd M i N)) ∧ w.grownBy w' (X.v i 0).ownBlock := by
  rcases h.row i hi 0 (by omega) with ⟨h1, h2⟩ | ⟨g, cap, cur, hv, hg, hh, hcap, htk⟩
  · have h1' : X.v i 0 = .slice none 0 0 := h1
    have h2' : M i = [] := h2
    rw [h1']
    refine (Cu.sortBy_nil w).mono ?_
    rintro e w' ⟨hr, k⟩
    refine ⟨hr, M i, ?_, eqv.refl _, ?_, ⟨k.os, k.tape, k.output, k.size, fun j hj _ => k.block j hj⟩⟩
    · rw [h2']; exact List.Pairwise.nil
    · rw [upd_self]
      exact h.same fun b cur ty hb _ => (k.block b (Array.getElem?_eq_some_iff.1 hb).1).trans hb
  · have hv' : X.v i 0 = .slice (some ⟨g, 0, none⟩) (M i).length cap := hv
    rw [hv']
    refine (Cu.sortBy_any g cap (M i).length (M i) w hF rfl hl ⟨cur, hh, htk⟩).mono ?_
    rintro e w' ⟨hr, ⟨N, n1, n2, n3, cur', n4, n5⟩, o⟩
    refine ⟨hr, N, n2, n3, ?_, ⟨o.os, o.tape, o.output, o.size, fun j hj hne => o.block j hj (fun q => hne (by rw [q]; rfl))⟩⟩
    refine h.srt hi (by rw [n1]; exact hv') hg n4 (by rw [n1]; exact hcap) n5 (fun x hx => n3.mem hx) ⟨cur, hh⟩ o.block
end Go.Proofs.Ytaogjiffnebnkaa
