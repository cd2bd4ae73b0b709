import Derived.Test.YtbjidpooociamaaDoorP1
import Derived.Maps.AppendAt
set_option linter.unusedVariables false
set_option linter.unusedSimpArgs false
namespace Go.Proofs.YtbjidpooociamaaDoor
open Go.RowKit Lb
/-- append(nil, l...). -/
theorem wpList_copy32n {wr : World} {ops : Array Oper} {rest : List Oper} {o : Oper} {a : Act} {Q : Exit → Act → World → Prop} (hgd : o.guard = none) (s x : Operand)
    (ho : o.op = .call { callee := .builtin .append, args := #[s, x], argTypes := #[22, 22] }) (l : List Nat) (ad : Option Addr) (c : Nat) (hs : a.eval s = .slice none 0 0)
    (hx : a.eval x = .slice ad l.length c) (hr : Rd wr ad l) (hlen : l.length ≤ 35184372088000)
    (hK : ∀ v' w1, Own wr.heap.size w1 v' l → Keep wr w1 → wpList Tryd.prog ops Q rest (a.put o.dst v') w1) :
    wpList Tryd.prog ops Q (o :: rest) a wr := by
  obtain ⟨i0, hi, hz0, hz1, hz2⟩ := info_parts i62
  have hown : Own wr.heap.size wr (.slice none 0 0) [] := ⟨rfl, .inl ⟨rfl, rfl⟩⟩
  rcases ad with _ | ad
  · obtain rfl : l = [] := by
      by_cases h : l = []
      · exact h
      · obtain ⟨b, o, e, -⟩ := hr 0 (List.length_pos_iff.2 h); cases e
    refine wpList_plain hgd fun K hK' => ?_
    have hrun : (Builtin.append_ #[22, 22] o.type #[.slice none 0 0, .slice none 0 c]).run Tryd.prog wr = .ok (.slice none 0 0) wr := by
      go_simp
    unfold Oper.wp
    simp [execOp, ho, resolve, invoke, builtin, hs, hx, hrun, Result.andThen]
    exact hK' _ _ (hK _ _ hown (Keep.refl wr))
  refine wpList_append_own _ hgd s x 22 ho wr.heap.size 62 i0 (.int .u32 0) 1 4 Tryd.underlying22 hi hz0 hz1 hz2 rfl (by decide) _ _ _ hs hown ad l.length c (U l) hx (by simp [U]) ?_ (U_one l) ?_ ?_ (by simp) ?_
  · intro j u hj
    have hjl : j < l.length := by have := (List.getElem?_eq_some_iff.1 hj).1; simpa [U_length] using this
    rw [U_get l j hjl] at hj
    obtain ⟨b', o', e, hc⟩ := hr j hjl
    simp only [Option.some.injEq] at e
    subst e
    have e2 : (Addr.mk b' o' none).add j = ⟨b', o' + j, none⟩ := by
      simp only [Addr.add]
      split
      · rename_i h; subst h; rfl
      · rfl
    rw [e2, hc, hj]
  · simp only [maxLen, List.length_nil]; omega
  · simp only [List.length_nil]; omega
  · intro v' w1 h1 h2 _
    refine hK v' w1 ?_ ?_
    · unfold Own
      simpa [U] using h1
    · refine Below.grown (Keep.refl wr) h2 (Nat.le_refl _) ?_
      intro k hk'
      cases hk'
set_option maxRecDepth 100000 in
set_option maxHeartbeats 400000 in
/-- A copy in memory of its own. -/
theorem copied_any (a : Option Addr) (c : Nat) (l : List Nat) (w : World) (hl : l.length ≤ 35184372088000) (hr : Rd w a l) :
    Calls Tryd.prog 66 #[.slice a l.length c] w fun e w' => ∃ v, e = .returned v ∧ Own w.heap.size w' v l ∧ Keep w w' := by
  go_enter Tryd.func66, Tryd.ntmps66
  go_wp2_with (first | (at_builtin; refine wpList_copy32n rfl _ _ rfl l a c ?_ ?_ hr hl ?_; rotate_left 2; intro v' w1 O1 k1))
  rotate_left 1
  · rfl
  · rfl
  go_ret
  exact ⟨_, rfl, O1, k1⟩
end Go.Proofs.YtbjidpooociamaaDoor
set_option linter.unusedVariables false
set_option linter.unusedSimpArgs false
namespace Go.Proofs.YtbjidpooociamaaDoor
open Go.RowKit Lb
/-- A slice over a block from its head on, whatever lies behind its length. -/
def Sl (w : World) (v : Value) (l : List Nat) : Prop :=
  (v = .slice none 0 0 ∧ l = []) ∨ ∃ g cap cur, v = .slice (some ⟨g, 0, none⟩) l.length cap ∧ w.heap[g]? = some (.cells cur 62 (0, 0)) ∧ l.length ≤ cap ∧ cur.size = cap ∧ cur.toList.take l.length = U l
theorem Res.sl {B : Nat} {w : World} {v : Value} {l : List Nat} (h : Res B w v l) : Sl w v l ∧ ∀ g, v.ownBlock = some g → B ≤ g ∧ g < w.heap.size := by
  rcases h with ⟨rfl, rfl⟩ | ⟨g, r, rfl, hb, hr, h1, h2⟩
  · exact ⟨.inl ⟨rfl, rfl⟩, fun g hg => by cases hg⟩
  · refine ⟨.inr ⟨g, r.length, _, rfl, hr, h1, by simp [U], ?_⟩, fun k hk => by cases hk; exact ⟨hb, hr.lt⟩⟩
    rw [← h2]
    simp [U, List.map_take]
theorem NatQ.sl {B C : Nat} {w : World} {v : Value} {n : Nat} (h : NatQ B C w v n) : ∃ l, Sl w v l ∧ (∀ g, v.ownBlock = some g → B ≤ g ∧ g < C) ∧ Lim l ∧ Nrm l ∧ val l = n := by
  obtain ⟨l, h1, h2⟩ := h
  rcases h1 with ⟨rfl, rfl⟩ | ⟨g, r, rfl, hb, hc, hr, q1, q2⟩
  · exact ⟨[], .inl ⟨rfl, rfl⟩, (fun g hg => by cases hg), h2⟩
  · have := (Res.sl (B := B) (w := w) (.inr ⟨g, r, rfl, hb, hr, q1, q2⟩)).1
    exact ⟨l, this, (fun k hk => by cases hk; exact ⟨hb, hc⟩), h2⟩
theorem Sl.shape {w : World} {v : Value} {l : List Nat} (h : Sl w v l) : ∃ a c, v = .slice a l.length c ∧ l.length ≤ c ∧ Rd w a l := by
  rcases h with ⟨rfl, rfl⟩ | ⟨g, cap, cur, rfl, hh, h1, h2, h3⟩
  · exact ⟨none, 0, rfl, Nat.le_refl _, Rd.nil _ _⟩
  · refine ⟨_, _, rfl, h1, fun j hj => ⟨g, 0, rfl, ?_⟩⟩
    rw [Nat.zero_add, cell_of_row w g j cur 62 (0, 0) hh, ← U_get l j hj, ← h3]
    simp [hj]
theorem Sl.same {w w' : World} {v : Value} {l : List Nat} (h : Sl w v l) (e : ∀ g, v.ownBlock = some g → w'.heap[g]? = w.heap[g]?) : Sl w' v l := by
  rcases h with h | ⟨g, cap, cur, rfl, hh, h1⟩
  · exact .inl h
  · exact .inr ⟨g, cap, cur, rfl, (e g rfl).trans hh, h1⟩
theorem Sl.lt {w : World} {v : Value} {l : List Nat} (h : Sl w v l) (g : Nat) (e : v.ownBlock = some g) : g < w.heap.size := by
  rcases h with ⟨rfl, -⟩ | ⟨g', cap, cur, rfl, hh, h1⟩
  · cases e
  · cases e; exact (Array.getElem?_eq_some_iff.1 hh).1
theorem Sl.keep {w w' : World} {v : Value} {l : List Nat} (h : Sl w v l) (k : Keep w w') : Sl w' v l := h.same (fun g hg => k.block g (h.lt g hg))
theorem take_two (x y z : List Value) : (x ++ (y ++ z)).take (x.length + y.length) = x ++ y := by rw [← List.append_assoc, ← List.length_append, List.take_left]
/-- append(v, ys...), v a slice of one's own. -/
theorem app_sl (w : World) (ty : Nat) (v : Value) (l : List Nat) (h : Sl w v l) (ys : List Nat) (m : Nat) (hm : ys.length = m) (h0 : 0 < m) (hn : l.length + m ≤ 35184372088832) (ad : Addr) (hnews : ∀ j u, (U ys)[j]? = some u → w.cell? (ad.add j) = some u) :
    ∃ v' w', (Builtin.append_ #[22, 22] ty #[v, .slice (some ad) m m]).run Tryd.prog w = .ok v' w' ∧ Sl w' v' (l ++ ys) ∧ w.grownBy w' v.ownBlock ∧ (v'.ownBlock = v.ownBlock ∨ v'.ownBlock = some w.heap.size) := by
  obtain ⟨i0, hi, hz0, hz1, hz2⟩ := info_parts i62
  have h1 : ∀ u ∈ U ys, u.oneCell' = true := U_one _
  have hl : (U ys).length = m * 1 := by rw [U_length]; omega
  have viaOwn : Own 0 w v l → ∃ v' w', (Builtin.append_ #[22, 22] ty #[v, .slice (some ad) m m]).run Tryd.prog w = .ok v' w' ∧ Sl w' v' (l ++ ys) ∧ w.grownBy w' v.ownBlock ∧ (v'.ownBlock = v.ownBlock ∨ v'.ownBlock = some w.heap.size) := by
    intro hown
    obtain ⟨v', w', hr, h2, h3, -, h5⟩ := run_append_own_at (P := Tryd.prog) w 0 22 ty 62 i0 _ 1 4 Tryd.underlying22 hi hz0 hz1 hz2 rfl (by decide) v _ _ hown ad m m (U ys) hl hnews h1 (by simp only [maxLen]; omega) (by omega) (Nat.zero_le _)
    refine ⟨v', w', hr, ?_, h3, h5⟩
    rcases h2.2 with ⟨-, q2⟩ | ⟨g, cap, cur, hv, -, hh, p1, p2, p3, p4⟩
    · omega
    · refine .inr ⟨g, cap, cur, by rw [hv]; simp [hm], hh, by simp [hm]; omega, by omega, ?_⟩
      rw [U_append, ← p4]
      simp [hm]
  rcases h with ⟨rfl, rfl⟩ | ⟨g, cap, cur, rfl, hh, q1, q2, q3⟩
  · exact viaOwn ⟨rfl, .inl ⟨rfl, rfl⟩⟩
  · by_cases hmx : cap ≤ maxLen
    · exact viaOwn ⟨by simp [U], .inr ⟨g, cap, cur, rfl, Nat.zero_le _, hh, q1, hmx, by omega, by rw [Nat.mul_one]; exact q3⟩⟩
    · have hroom : l.length + m ≤ cap := by simp only [maxLen] at hmx; omega
      have e := run_append_room (P := Tryd.prog) w 22 ty 62 i0 Tryd.underlying22 hi g l.length cap _ hh ad m m (U ys) (by rw [hz1]; exact hl) hnews h1 hroom (by rw [hz1]; simp [U]; omega)
      refine ⟨_, _, e, ?_, ?_, .inl rfl⟩
      · refine .inr ⟨g, cap, _, by simp [hm], setRow_heap w g _ _ 62 (0, 0) hh, by simp [hm]; exact hroom, ?_, ?_⟩
        · have hcl : cur.toList.length = cap := by simpa using q2
          have : (U l).length = l.length := U_length l
          simp [hz1, hl]
          omega
        · have hcl : cur.toList.length = cap := by simpa using q2
          rw [hz1, Nat.mul_one, q3, U_append, List.append_assoc]
          rw [show (l ++ ys).length = (U l ++ U ys).length by simp [U_length]]
          rw [← List.append_assoc]
          simp
          exact take_two _ _ _
      · exact ⟨rfl, rfl, rfl, by simp, fun k hk hne => setRow_other w g k _ (fun e => hne (by rw [e]; rfl))⟩
/-- The same at the operation, one number. -/
theorem wpList_appS (ys : List Nat) (m : Nat) {wr : World} {ops : Array Oper} {rest : List Oper} {o : Oper} {a : Act} {Q : Exit → Act → World → Prop} (hgd : o.guard = none) (s x : Operand)
    (hop : o.op = .call { callee := .builtin .append, args := #[s, x], argTypes := #[22, 22] }) (l : List Nat) (v : Value) (hs : a.eval s = v) (hsl : Sl wr v l) (hm : ys.length = m) (h0 : 0 < m) (hn : l.length + m ≤ 35184372088832)
    (hx : a.eval x = .slice (some ⟨wr.heap.size, 0, none⟩) m m)
    (hK : ∀ v' w', Sl w' v' (l ++ ys) → (wr.alloc (.cells (U ys).toArray 62)).grownBy w' v.ownBlock → (v'.ownBlock = v.ownBlock ∨ v'.ownBlock = some (wr.heap.size + 1)) → wpList Tryd.prog ops Q rest (a.put o.dst v') w') :
    wpList Tryd.prog ops Q (o :: rest) a (wr.alloc (.cells (U ys).toArray 62)) := by
  refine wpList_plain hgd fun K hK' => ?_
  have hsl' : Sl (wr.alloc (.cells (U ys).toArray 62)) v l := hsl.keep ((Keep.refl wr).alloc _)
  obtain ⟨v', w', hrun, r1, r2, r3⟩ := app_sl (wr.alloc (.cells (U ys).toArray 62)) o.type v l hsl' ys m hm h0 hn ⟨wr.heap.size, 0, none⟩ (by
    intro j u hj
    have e2 : (Addr.mk wr.heap.size 0 none).add j = ⟨wr.heap.size, 0 + j, none⟩ := by
      simp only [Addr.add]
      split
      · rename_i h; subst h; rfl
      · rfl
    rw [e2, Nat.zero_add, cell_of_row _ _ j _ 62 (0, 0) (heap_alloc_new wr _)]
    simpa using hj)
  unfold Oper.wp
  simp [execOp, hop, resolve, invoke, builtin, hs, hx, hrun, Result.andThen]
  exact hK' _ _ (hK v' w' r1 r2 (by simpa using r3))
/-- Limbs that can be read, in blocks of a run. -/
def RdQ (B C : Nat) (w : World) (a : Option Addr) (l : List Nat) : Prop := ∀ j, j < l.length → ∃ b o, a = some ⟨b, o, none⟩ ∧ B ≤ b ∧ b < C ∧ w.cell? ⟨b, o + j, none⟩ = some (.int .u32 (l.getD j 0 : Nat))
theorem RdQ.same {B C : Nat} {w w' : World} {a : Option Addr} {l : List Nat} (h : RdQ B C w a l) (e : ∀ i, B ≤ i → i < C → w'.heap[i]? = w.heap[i]?) : RdQ B C w' a l := by
  intro j hj
  obtain ⟨b, o, h1, h2, h3, h4⟩ := h j hj
  exact ⟨b, o, h1, h2, h3, by rw [World.cell?_of_block (w := w) (e b h2 h3)]; exact h4⟩
theorem RdQ.mono {B C B' C' : Nat} {w : World} {a : Option Addr} {l : List Nat} (h : RdQ B C w a l) (hB : B' ≤ B) (hC : C ≤ C') : RdQ B' C' w a l := by
  intro j hj
  obtain ⟨b, o, h1, h2, h3, h4⟩ := h j hj
  exact ⟨b, o, h1, by omega, by omega, h4⟩
theorem RdQ.rd {B C : Nat} {w : World} {a : Option Addr} {l : List Nat} (h : RdQ B C w a l) : Rd w a l := by
  intro j hj
  obtain ⟨b, o, h1, h2, h3, h4⟩ := h j hj
  exact ⟨b, o, h1, h4⟩
theorem Own.rdq {B : Nat} {w : World} {v : Value} {l : List Nat} (h : Own B w v l) : ∃ a c, v = .slice a l.length c ∧ l.length ≤ c ∧ RdQ B w.heap.size w a l := by
  rcases h.2 with ⟨h1, h2⟩ | ⟨g, cap, cur, hv, hg, hh, h1, h2, h3, h4⟩
  · exact ⟨none, 0, by rw [h1, h2], by omega, fun j hj => by omega⟩
  · refine ⟨some ⟨g, 0, none⟩, cap, hv, h1, fun j hj => ⟨g, 0, rfl, hg, (Array.getElem?_eq_some_iff.1 hh).1, ?_⟩⟩
    rw [Nat.zero_add, cell_of_row w g j cur 62 (0, 0) hh, ← U_get l j hj, ← h4]
    simp [hj]
/-- Slices that lie in runs of blocks, one behind the other. -/
def Runs (w : World) : Nat → Nat → List Value → List (List Nat) → Prop
  | B, C, [], [] => B ≤ C
  | B, C, v :: vs, l :: ls => ∃ M, B ≤ M ∧ Sl w v l ∧ (∀ g, v.ownBlock = some g → B ≤ g ∧ g < M) ∧ Runs w M C vs ls
  | _, _, [], _ :: _ => False
  | _, _, _ :: _, [] => False
def nilS : Value := .slice none 0 0
theorem Runs.le {w : World} : ∀ {B C : Nat} {vs : List Value} {ls : List (List Nat)}, Runs w B C vs ls → B ≤ C
  | _, _, [], [], h => h
  | _, _, _ :: _, _ :: _, ⟨M, h1, _, _, h2⟩ => Nat.le_trans h1 h2.le
  | _, _, [], _ :: _, h => h.elim
  | _, _, _ :: _, [], h => h.elim
theorem Runs.sl {w : World} : ∀ {B C : Nat} {vs : List Value} {ls : List (List Nat)}, Runs w B C vs ls → ∀ i, i < vs.length → Sl w (vs.getD i nilS) (ls.getD i []) ∧ ∀ g, (vs.getD i nilS).ownBlock = some g → B ≤ g ∧ g < C
  | _, _, [], [], _, i, hi => by simp at hi
  | _, _, _ :: _, _ :: _, ⟨M, h1, h2, h3, h4⟩, 0, _ => ⟨h2, fun g hg => by have := h3 g hg; have := h4.le; omega⟩
  | _, _, _ :: vs, _ :: ls, ⟨M, h1, h2, h3, h4⟩, i + 1, hi => by
    have := h4.sl i (by simpa using hi)
    exact ⟨by simpa using this.1, fun g hg => by have := this.2 g (by simpa using hg); omega⟩
  | _, _, [], _ :: _, h, _, _ => h.elim
  | _, _, _ :: _, [], h, _, _ => h.elim
theorem Runs.apart {w : World} : ∀ {B C : Nat} {vs : List Value} {ls : List (List Nat)}, Runs w B C vs ls → ∀ i j g, i < j → j < vs.length → (vs.getD i nilS).ownBlock = some g → (vs.getD j nilS).ownBlock ≠ some g
  | _, _, [], [], _, i, j, g, h, hj => by simp at hj
  | _, _, _ :: vs, _ :: ls, ⟨M, h1, h2, h3, h4⟩, 0, j + 1, g, h, hj => by
    intro e1 e2
    have := h3 g (by simpa using e1)
    have := (h4.sl j (by simpa using hj)).2 g (by simpa using e2)
    omega
  | _, _, _ :: vs, _ :: ls, ⟨M, h1, h2, h3, h4⟩, i + 1, j + 1, g, h, hj => by
    intro e1
    have := h4.apart i j g (by omega) (by simpa using hj) (by simpa using e1)
    simpa using this
  | _, _, [], _ :: _, h, _, _, _, _, _ => h.elim
  | _, _, _ :: _, [], h, _, _, _, _, _ => h.elim
/-- The ten slices of the array, each in memory of its own. -/
structure TI (wb w0 : World) (A : Nat) (VL : List Value) (LL : List (List Nat)) (wr : World) : Prop where
  kp : Keep wb wr
  pr : ∀ b, A < b → b < w0.heap.size → wr.heap[b]? = w0.heap[b]?
  sz : w0.heap.size ≤ wr.heap.size
  lv : VL.length = 10
  ll : LL.length = 10
  ar : wr.heap[A]? = some (.cells VL.toArray 63 (0, 0))
  ow : ∀ i, i < 10 → Sl wr (VL.getD i nilS) (LL.getD i [])
  pl : ∀ i g, i < 10 → (VL.getD i nilS).ownBlock = some g → wb.heap.size ≤ g ∧ (g < A ∨ w0.heap.size ≤ g)
  ap : ∀ i j g, i < 10 → j < 10 → i ≠ j → (VL.getD i nilS).ownBlock = some g → (VL.getD j nilS).ownBlock ≠ some g
theorem arr_cell {w : World} {A : Nat} {VL : List Value} (h : w.heap[A]? = some (.cells VL.toArray 63 (0, 0))) (i : Nat) (hi : i < VL.length) : w.cell? ⟨A, i, none⟩ = some (VL.getD i nilS) := by
  rw [cell_of_row w A i _ 63 (0, 0) h]
  simp [List.getD, hi]
theorem arr_set {w : World} {A : Nat} {VL : List Value} (h : w.heap[A]? = some (.cells VL.toArray 63 (0, 0))) (i : Nat) (v : Value) : (w.setCell ⟨A, i, none⟩ v).heap[A]? = some (.cells (VL.set i v).toArray 63 (0, 0)) := by
  rw [heap_setCell_same w A i _ 63 v h]
  simp
theorem set_other (w : World) (g j : Nat) (v : Value) (b : Nat) (h : b ≠ g) : (w.setCell ⟨g, j, none⟩ v).heap[b]? = w.heap[b]? := heap_setCell_other w ⟨g, j, none⟩ b v h
theorem getD_set {α : Type} (L : List α) (i j : Nat) (x d : α) (hi : i < L.length) : (L.set i x).getD j d = if j = i then x else L.getD j d := by
  by_cases h : j = i
  · subst h; simp [List.getD, hi]
  · rw [if_neg h]; simp [List.getD, List.getElem?_set, Ne.symm h]
theorem TI.set {wb w0 wr : World} {A : Nat} {VL : List Value} {LL : List (List Nat)} (h : TI wb w0 A VL LL wr) (hA : wb.heap.size ≤ A ∧ A < w0.heap.size) (i k x g cap : Nat) (hi : i < 10) (hk : k < (LL.getD i []).length) (hv : VL.getD i nilS = .slice (some ⟨g, 0, none⟩) (LL.getD i []).length cap) :
    TI wb w0 A VL (LL.set i ((LL.getD i []).set k x)) (wr.setCell ⟨g, k, none⟩ (.int .u32 (x : Nat))) := by
  have hp := h.pl i g hi (by rw [hv]; rfl)
  refine ⟨h.kp.setCell (p := ⟨g, k, none⟩) hp.1 _, ?_, by have := h.sz; simpa using this, h.lv, by simpa using h.ll, ?_, ?_, h.pl, h.ap⟩
  · intro b h1 h2
    exact (set_other wr g k _ b (by omega)).trans (h.pr b h1 h2)
  · exact (set_other wr g k _ A (by omega)).trans h.ar
  · intro j hj
    rw [getD_set _ _ _ _ _ (by rw [h.ll]; exact hi)]
    by_cases e : j = i
    · subst e
      rw [if_pos rfl]
      rcases h.ow j hj with ⟨-, h0⟩ | ⟨g', cap', cur, e1, hh, q1, q2, q3⟩
      · rw [h0] at hk; simp at hk
      · rw [hv] at e1
        simp only [Value.slice.injEq, Option.some.injEq, Addr.mk.injEq, and_true] at e1
        obtain ⟨rfl, -, rfl⟩ := e1
        refine .inr ⟨g, cap, _, by rw [hv]; simp, heap_setCell_same wr g k cur 62 _ hh, by simpa using q1, by simpa using q2, ?_⟩
        rw [List.length_set]
        simp only [Array.toList_setIfInBounds, List.take_set, q3]
        simp [U, List.map_set]
    · rw [if_neg e]
      exact (h.ow j hj).same (fun g' hg' => set_other wr g k _ g' (fun e2 => h.ap i j g hi hj (Ne.symm e) (by rw [hv]; rfl) (by rw [hg', e2])))
theorem TI.grow {wb w0 wr wB : World} {A : Nat} {VL : List Value} {LL : List (List Nat)} (h : TI wb w0 A VL LL wr) (hA : wb.heap.size ≤ A ∧ A < w0.heap.size) (i : Nat) (hi : i < 10) (o : Obj) (v' : Value) (l' : List Nat)
    (hs : Sl wB v' l') (hg : (wr.alloc o).grownBy wB (VL.getD i nilS).ownBlock) (loc : v'.ownBlock = (VL.getD i nilS).ownBlock ∨ v'.ownBlock = some (wr.heap.size + 1)) :
    wB.heap[A]? = some (.cells VL.toArray 63 (0, 0)) ∧ TI wb w0 A (VL.set i v') (LL.set i l') (wB.setCell ⟨A, i, none⟩ v') := by
  have hsz := h.sz
  have hs1 : (wr.alloc o).heap.size = wr.heap.size + 1 := by simp
  have hB := hg.size
  rw [hs1] at hB
  have same : ∀ b, b < wr.heap.size → (VL.getD i nilS).ownBlock ≠ some b → wB.heap[b]? = wr.heap[b]? := by
    intro b h1 h2
    rw [hg.block b (by omega) (fun e => h2 e.symm)]
    exact ((Keep.refl wr).alloc o).block b h1
  have hnA : (VL.getD i nilS).ownBlock ≠ some A := by
    intro e
    have := h.pl i A hi e
    omega
  have hAB := (same A (by omega) hnA).trans h.ar
  have nA : ∀ g, v'.ownBlock = some g → g ≠ A := by
    intro g e1 e2
    subst e2
    rcases loc with q | q
    · exact hnA (q ▸ e1)
    · rw [q] at e1; simp only [Option.some.injEq] at e1; omega
  refine ⟨hAB, ?_, ?_, by simp; omega, by simpa using h.lv, by simpa using h.ll, arr_set hAB i v', ?_, ?_, ?_⟩
  · have kB : Keep wb wB := Below.grown (h.kp.alloc o) hg (by have := h.kp.le; rw [hs1]; omega) (fun k hk => (h.pl i k hi hk).1)
    exact kB.setCell (p := ⟨A, i, none⟩) hA.1 _
  · intro b h1 h2
    rw [set_other _ _ _ _ b (by omega), same b (by omega) (fun e => by have := h.pl i b hi e; omega)]
    exact h.pr b h1 h2
  · intro j hj
    rw [getD_set _ _ _ _ _ (by rw [h.lv]; exact hi), getD_set _ _ _ _ _ (by rw [h.ll]; exact hi)]
    by_cases e : j = i
    · rw [if_pos e, if_pos e]
      exact hs.same (fun g hg' => set_other wB A i _ g (nA g hg'))
    · rw [if_neg e, if_neg e]
      refine (h.ow j hj).same (fun g hg' => ?_)
      have hp := h.pl j g hj hg'
      rw [set_other wB A i _ g (by omega)]
      exact same g ((h.ow j hj).lt g hg') (fun e2 => h.ap i j g hi hj (Ne.symm e) e2 hg')
  · intro j g hj
    rw [getD_set _ _ _ _ _ (by rw [h.lv]; exact hi)]
    by_cases e : j = i
    · rw [if_pos e]
      intro e1
      rcases loc with q | q
      · exact h.pl i g hi (q ▸ e1)
      · rw [q] at e1; simp only [Option.some.injEq] at e1
        have := h.kp.le
        omega
    · rw [if_neg e]
      exact h.pl j g hj
  · intro j t g hj ht hne
    rw [getD_set _ _ _ _ _ (by rw [h.lv]; exact hi), getD_set _ _ _ _ _ (by rw [h.lv]; exact hi)]
    by_cases e : j = i
    · have e' : t ≠ i := by omega
      rw [if_pos e, if_neg e']
      intro e1 e2
      rcases loc with q | q
      · exact h.ap i t g hi ht (Ne.symm e') (q ▸ e1) e2
      · rw [q] at e1; simp only [Option.some.injEq] at e1
        have := (h.ow t ht).lt g e2
        omega
    · rw [if_neg e]
      by_cases e' : t = i
      · rw [if_pos e']
        intro e1 e2
        rcases loc with q | q
        · exact h.ap j i g hj hi e e1 (q ▸ e2)
        · rw [q] at e2; simp only [Option.some.injEq] at e2
          have := (h.ow j hj).lt g e1
          omega
      · rw [if_neg e']
        exact h.ap j t g hj ht hne
/-- What ^ 85 makes of a limb. -/
def xr (x : Nat) : Nat := (bits .xor .u32 (x : Int) 85).toNat
theorem xr_eq (x : Nat) : bits .xor .u32 (x : Int) 85 = (xr x : Int) := by
  have h : 0 ≤ bits .xor .u32 (x : Int) 85 := by
    show 0 ≤ IntKind.u32.wrap _
    rw [IntKind.wrap_u32]
    omega
  unfold xr
  omega
end Go.Proofs.YtbjidpooociamaaDoor
set_option linter.unusedVariables false
set_option linter.unusedSimpArgs false
namespace Go.Proofs.YtbjidpooociamaaDoor
open Go.RowKit Lb
set_option maxRecDepth 100000 in
set_option maxHeartbeats 800000 in
theorem ratio_any (ng : Bool) (a b : Option Addr) (ca cb : Nat) (la lb : List Nat) (w : World) (hla : la.length ≤ 35184372088000) (hlb : lb.length ≤ 35184372088000) (hra : Rd w a la) (hrb : Rd w b lb) :
    Calls Tryd.prog 67 #[.agg #[.bool ng, .slice a la.length ca, .slice b lb.length cb]] w fun e w' => ∃ an cn ad cd, e = .returned (.agg #[.bool ng, .slice an la.length cn, .slice ad lb.length cd]) ∧ la.length ≤ cn ∧ lb.length ≤ cd ∧ Rd w' an la ∧ Rd w' ad lb ∧ Keep w w' := by
  obtain ⟨W, hW, B1, B2, kW⟩ := lay2 w (.bool ng) (.slice a la.length ca) (.slice b lb.length cb) (.bool false) (.slice none 0 0) (.slice none 0 0)
  have M1 := fun wx (hk : Keep w wx) => copied_any a ca la wx hla (hra.keep hk)
  have M2 := fun wx (hk : Keep w wx) => copied_any b cb lb wx hlb (hrb.keep hk)
  go_enter Tryd.func67, Tryd.ntmps67
  go_wp2_with fail
  rw [← hW]
  clear hW
  obtain ⟨x0, x1, x2⟩ := B1.cells
  have Bd : Box W.drew (w.heap.size + 1) (.bool false) (.slice none 0 0) (.slice none 0 0) := B2
  have kd : Keep w W.drew := kW.drew
  have hgw : w.heap.size ≤ w.heap.size + 1 := by omega
  obtain ⟨g, hg⟩ : ∃ g, w.heap.size = g := ⟨_, rfl⟩
  rw [hg] at x0 x1 x2 Bd
  rw [show w.heap.size + 1 = g + 1 by omega] at hgw
  rw [hg]
  clear hg
  go_region_held3 (fun w' => w'.cell? ⟨g, 0, none⟩ = some (Value.bool ng) ∧ w'.cell? ⟨g, 1, none⟩ = some (Value.slice a la.length ca) ∧ w'.cell? ⟨g, 2, none⟩ = some (Value.slice b lb.length cb)) (go_keep) (first
    | (go_at_call_of 66 (Value.slice a la.length ca); refine (M1 _ ?_).mono ?_; exact kd; rintro e wA ⟨vA, rfl, OA, kA⟩; obtain ⟨aA, cA, rfl, hcA, rA⟩ := OA.shape; have k1 := kd.trans kA; have BA := Bd.keep kA; have s0 := Keep.cell kA x0; have s1 := Keep.cell kA x1; have s2 := Keep.cell kA x2)
    | (go_at_call_of 66 (Value.slice b lb.length cb); refine (M2 _ ?_).mono ?_; exact k1; rintro e wB ⟨vB, rfl, OB, kB⟩; obtain ⟨aB, cB, rfl, hcB, rB⟩ := OB.shape; have k2 := k1.trans kB; have BB := BA.keep kB; have rA2 := rA.keep kB; have t0 := Keep.cell kB s0; have t1 := Keep.cell kB s1; have t2 := Keep.cell kB s2; obtain ⟨z0, z1, z2⟩ := BB.cells; have f0 := BB.free 0; have f1 := BB.free 1; have f2 := BB.free 2))
  go_simp
  go_wp2_with fail
  refine bodyPost_ret (v := .agg #[.bool ng, .slice aA la.length cA, .slice aB lb.length cB]) (by simp [results, Tryd.results67, go_sem, World.cell?_setCell_other, World.cell?_setCell_same, z0, z1, z2]) rfl ⟨_, _, _, _, rfl, hcA, hcB, ?_, ?_, ?_⟩
  · exact rd_box rA2 BB (by simp) (by simp) (by simp) _ _ _
  · exact rd_box rB BB (by simp) (by simp) (by simp) _ _ _
  · exact ((k2.setCell (p := ⟨g + 1, 0, none⟩) hgw _).setCell (p := ⟨g + 1, 1, none⟩) hgw _).setCell (p := ⟨g + 1, 2, none⟩) hgw _
/-- DivMod, by whatever: quotient and remainder in memory of their own. -/
theorem DivMod_both (a b : Option Addr) (ca cb : Nat) (la lb : List Nat) (w : World) (hca : la.length ≤ ca) (hcb : lb.length ≤ cb) (hla : la.length ≤ 70368744177663) (hlb : lb.length ≤ 70368744177663) (hra : Rd w a la) (hrb : Rd w b lb) (hma : Lim la) (hmb : Lim lb) :
    Calls Tryd.prog 37 #[.slice a la.length ca, .slice b lb.length cb] w fun e w' => ∃ M vq vr E nq nr, e = .returned (.tuple #[vq, vr, .int .i64 E]) ∧ w.heap.size ≤ M ∧ M ≤ w'.heap.size ∧ NatQ w.heap.size M w' vq nq ∧ NatQ M w'.heap.size w' vr nr ∧ nq ≤ val la ∧ nr ≤ val la ∧ Keep w w' := by
  by_cases h0 : val lb = 0
  · refine (DivMod_nought a b ca cb la lb w hca hcb (by omega) (by omega) hra hrb (nl_val.2 h0)).mono ?_
    rintro e w' ⟨rfl, k⟩
    exact ⟨w.heap.size, _, _, _, 0, 0, rfl, Nat.le_refl _, k.le, NatQ.nil _ _ _, NatQ.nil _ _ _, Nat.zero_le _, Nat.zero_le _, k⟩
  · refine (DivMod_own a b ca cb la lb w hca hcb hla (by omega) hra hrb hma hmb (by omega)).mono ?_
    rintro e w' ⟨M, vq, vr, rfl, h1, h2, h3, h4, k⟩
    exact ⟨M, vq, vr, _, _, _, rfl, h1, h2, h3, h4, Nat.div_le_self _ _, Nat.mod_le _ _, k⟩
theorem len_both {l la lb : List Nat} (n : Nrm l) (ha : Lim la) (hb : Lim lb) (h : val l ≤ val la + val lb) (K : Nat) (h1 : la.length ≤ K) (h2 : lb.length ≤ K) : l.length ≤ K + 1 := by
  refine len_le_pow n _ ?_
  have e1 := val_lt ha
  have e2 := val_lt hb
  have e3 : 4294967296 ^ la.length ≤ 4294967296 ^ K := Nat.pow_le_pow_right (by omega) h1
  have e4 : 4294967296 ^ lb.length ≤ 4294967296 ^ K := Nat.pow_le_pow_right (by omega) h2
  rw [Nat.pow_succ]
  omega
/-- Copies that were kept, while they are made. -/
structure WI (w12 : World) (A : Nat) (VL : List Value) (LL : List (List Nat)) (i : Nat) (WV : List Value) (wr : World) : Prop where
  kp : Keep w12 wr
  ar : wr.heap[A]? = some (.cells VL.toArray 63 (0, 0))
  aw : wr.heap[A + 1]? = some (.cells WV.toArray 63 (0, 0))
  lw : WV.length = 10
  sz : A + 1 < wr.heap.size
  rd : ∀ j, j < i → ∃ a c, WV.getD j nilS = .slice a (LL.getD j []).length c ∧ RdQ (A + 2) wr.heap.size wr a (LL.getD j [])
theorem WI.step {w12 wr wB : World} {A : Nat} {VL : List Value} {LL : List (List Nat)} {i : Nat} {WV : List Value} (h : WI w12 A VL LL i WV wr) (hA : w12.heap.size = A) (hi : i < 10) (v' : Value) (hO : Own wr.heap.size wB v' (LL.getD i [])) (k : Keep wr wB) :
    WI w12 A VL LL (i + 1) (WV.set i v') (wB.setCell ⟨A + 1, i, none⟩ v') := by
  have hs := h.sz
  have hsB := k.le
  refine ⟨(h.kp.trans k).setCell (p := ⟨A + 1, i, none⟩) (by show w12.heap.size ≤ A + 1; omega) _, ?_, arr_set ((k.block (A + 1) hs).trans h.aw) i v', by simpa using h.lw, by simp; omega, ?_⟩
  · rw [set_other wB (A + 1) i _ A (by omega), k.block A (by omega)]
    exact h.ar
  · intro j hj
    rw [getD_set _ _ _ _ _ (by rw [h.lw]; exact hi)]
    by_cases e : j = i
    · subst e
      rw [if_pos rfl]
      obtain ⟨a, c, e1, -, r⟩ := hO.rdq
      exact ⟨a, c, e1, (r.mono (by omega) (by simp)).same (fun b h1 h2 => set_other wB (A + 1) j _ b (by omega))⟩
    · rw [if_neg e]
      obtain ⟨a, c, e1, r⟩ := h.rd j (by omega)
      refine ⟨a, c, e1, (r.same (w' := wB.setCell ⟨A + 1, i, none⟩ v') (fun b h1 h2 => ?_)).mono (Nat.le_refl _) (by simp; omega)⟩
      rw [set_other wB (A + 1) i _ b (by omega)]
      exact k.block b h2
theorem get_set2 (LL : List (List Nat)) (i k x j t : Nat) (hi : i < LL.length) (hk : k < (LL.getD i []).length) : ((LL.set i ((LL.getD i []).set k x)).getD j []).getD t 0 = if j = i ∧ t = k then x else (LL.getD j []).getD t 0 := by
  rw [getD_set _ _ _ _ _ hi]
  by_cases e : j = i
  · subst e
    rw [if_pos rfl, getD_set _ _ _ _ _ hk]
    by_cases e2 : t = k
    · rw [if_pos e2, if_pos ⟨rfl, e2⟩]
    · rw [if_neg e2, if_neg (fun h => e2 h.2)]
  · rw [if_neg e, if_neg (fun h => e h.1)]
theorem TI.start {w3 w12 w0 : World} {A : Nat} {VL : List Value} {LL : List (List Nat)} (hk : Keep w3 w12) (hR : Runs w12 w3.heap.size A VL LL) (h10 : VL.length = 10) (hl10 : LL.length = 10) {i : Nat} {WV : List Value} (hW : WI w12 A VL LL i WV w0) (hA : w12.heap.size = A) : TI w3 w0 A VL LL w0 := by
  refine ⟨hk.trans hW.kp, fun _ _ _ => rfl, Nat.le_refl _, h10, hl10, hW.ar, fun i hi => ((hR.sl i (by omega)).1).keep hW.kp, fun i g hi e => ?_, fun i j g hi hj hne e1 e2 => ?_⟩
  · have := (hR.sl i (by omega)).2 g e
    omega
  · rcases Nat.lt_or_ge i j with h | h
    · exact hR.apart i j g h (by omega) e1 e2
    · exact hR.apart j i g (by omega) (by omega) e2 e1
end Go.Proofs.YtbjidpooociamaaDoor
