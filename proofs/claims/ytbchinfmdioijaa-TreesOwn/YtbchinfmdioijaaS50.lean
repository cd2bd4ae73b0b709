import Derived.Test.YtbchinfmdioijaaS41
import Derived.Test.YtbchinfmdioijaaS49
set_option linter.unusedVariables false
set_option linter.unusedSimpArgs false
namespace Go.Proofs.Ytbchinfmdioijaa
open Go.RowKit Go.Shelf
/-- Numbered anew nodes' numbers still fit. -/
theorem cnoN_fit {L : List Nd} (hLn : L.length ≤ 2199023255552) {w : World} {a : Option Addr} (hrd : RdN w a L) : ∀ j, j < (cnoN L).length → ((cnoN L).getD j nd0).cs.length ≤ 17592186044416 ∧ ((cnoN L).getD j nd0).Fit := by
  intro j hj
  unfold cnoN at hj ⊢
  split at hj
  · rename_i hE
    rw [if_pos hE]
    have hR := shE_rgt hE
    unfold cnoL at hj ⊢
    rw [List.length_map] at hj
    have hle := anF_le L.length (ord (shp L) L.length)
    have hol := ord_len hR.wi
    have hlt : (ord (shp L) L.length)[j] < L.length := ord_lt hR.wi _ (List.getElem_mem hj)
    obtain ⟨b, o, ca, cp, e, hnd⟩ := hrd _ hlt
    have eg : (((ord (shp L) L.length).map (fun i => rnN (anF L.length (ord (shp L) L.length)) (L.getD i nd0))).getD j nd0) = rnN (anF L.length (ord (shp L) L.length)) (L.getD (ord (shp L) L.length)[j] nd0) := by simp [List.getD, hj]
    rw [eg]
    have hf := hnd.ok
    have hs := hnd.sz
    generalize L.getD (ord (shp L) L.length)[j] nd0 = n at *
    refine ⟨hs, hf.kd, hf.vl, hf.ft, hf.th, hf.cs, hf.ms, ?_, ?_⟩
    · have := hle n.lf.toNat
      show -9223372036854775808 ≤ (((anF L.length (ord (shp L) L.length)).getD n.lf.toNat 0 : Nat) : Int) ∧ (((anF L.length (ord (shp L) L.length)).getD n.lf.toNat 0 : Nat) : Int) ≤ 9223372036854775807
      omega
    · have := hle n.rt.toNat
      show -9223372036854775808 ≤ (((anF L.length (ord (shp L) L.length)).getD n.rt.toNat 0 : Nat) : Int) ∧ (((anF L.length (ord (shp L) L.length)).getD n.rt.toNat 0 : Nat) : Int) ≤ 9223372036854775807
      omega
  · simp at hj
theorem CT.rdN2 {w : World} {S : Nat → Prop} {a : Option Addr} {c : Nat} {L : List Nd} (h : CT w S a c L) (hf : ∀ j, j < L.length → (L.getD j nd0).cs.length ≤ 17592186044416 ∧ (L.getD j nd0).Fit) : RdN w a L := by
  obtain ⟨K, h1, h2, h3, h4, h5, h6⟩ := h
  intro j hj
  obtain ⟨a', c', e, hc, hr⟩ := h3.shape
  simp only [Value.slice.injEq] at e
  obtain ⟨rfl, -, rfl⟩ := e
  obtain ⟨b, rfl, hb⟩ := hr j (by omega)
  have hz := h4 j hj
  have he := h2 j hj
  obtain ⟨hs, hfit⟩ := hf j hj
  generalize K.getD j nt0 = r at *
  obtain ⟨N, va, cc⟩ := r
  simp only at he hz
  obtain ⟨a2, c2, e2, hcc, hri⟩ := hz.shape
  simp only [Value.slice.injEq] at e2
  obtain ⟨rfl, -, rfl⟩ := e2
  rw [← he] at hs hfit ⊢
  refine ⟨b, 0, va, cc, rfl, ?_⟩
  rw [Nat.zero_add]
  exact ⟨hb 0 _ (by omega) rfl, hb 1 _ (by omega) rfl, hb 2 _ (by omega) rfl, hb 3 _ (by omega) rfl, hb 4 _ (by omega) rfl, hb 5 _ (by omega) rfl, hb 6 _ (by omega) rfl, hb 7 _ (by omega) rfl, hri, hcc, hs, hfit⟩
end Go.Proofs.Ytbchinfmdioijaa
set_option linter.unusedVariables false
set_option linter.unusedSimpArgs false
namespace Go.Proofs.Ytbchinfmdioijaa
open Go.RowKit Go.Shelf
/-- What the reference's Model holds between two rounds. -/
structure MJt (us : List (Int × List Nd)) (w1 W : World) (v : Value) (k : Nat) (wr : World) (K : List (Int × Option Addr × Nat × Nat)) : Prop where
  len : K.length = us.length
  eq : ∀ j, j < k → (K.getD j tt0).1 = (us.getD j (0, [])).1 ∧ (K.getD j tt0).2.2.1 = (us.getD j (0, [])).2.length ∧ (us.getD j (0, [])).2.length ≤ (K.getD j tt0).2.2.2
  own : OwnT w1.heap.size wr v K
  ct : ∀ j, j < k → CT wr (fun b => W.heap.size ≤ b ∧ b < wr.heap.size) (K.getD j tt0).2.1 (K.getD j tt0).2.2.2 (us.getD j (0, [])).2
  kp : Keep w1 wr
  sz : W.heap.size ≤ wr.heap.size
  low : ∀ b, b < W.heap.size → v.ownBlock ≠ some b → wr.heap[b]? = W.heap[b]?
theorem getD_setT (K : List (Int × Option Addr × Nat × Nat)) (k : Nat) (r : Int × Option Addr × Nat × Nat) (hk : k < K.length) (j : Nat) : (K.set k r).getD j tt0 = if j = k then r else K.getD j tt0 := by
  by_cases e : j = k
  · subst e; simp [List.getD, hk]
  · rw [if_neg e]; simp [List.getD, List.getElem?_set, Ne.symm e]
theorem MJt.step {us : List (Int × List Nd)} {w1 W : World} {g m c : Nat} {k : Nat} {wr : World} {K : List (Int × Option Addr × Nat × Nat)} (hI : MJt us w1 W (.slice (some ⟨g, 0, none⟩) m c) k wr K) (hk : k < us.length) (hg : g < W.heap.size) (hgB : w1.heap.size ≤ g) {O : Int} {M : List Nd} {an : Option Addr} {cn : Nat} {Wq : World}
    (hT : us.getD k (0, []) = (O, M)) (kW : Keep wr Wq) (hC : CT Wq (fun b => wr.heap.size ≤ b ∧ b < Wq.heap.size) an cn M) (hc : M.length ≤ cn) :
    MJt us w1 W (.slice (some ⟨g, 0, none⟩) m c) (k + 1) ((Wq.setCell ⟨g, k * 2, none⟩ (.int .i64 O)).setCell ⟨g, k * 2 + 1, none⟩ (.slice an M.length cn)) (K.set k (O, an, M.length, cn)) := by
  have hkK : k < K.length := by rw [hI.len]; exact hk
  have hsz := hI.sz
  have hle := kW.le
  have hb2 : ∀ b, b ≠ g → ((Wq.setCell ⟨g, k * 2, none⟩ (.int .i64 O)).setCell ⟨g, k * 2 + 1, none⟩ (.slice an M.length cn)).heap[b]? = Wq.heap[b]? := fun b hb => by rw [neq_set _ _ _ _ b hb, neq_set _ _ _ _ b hb]
  have hss : ((Wq.setCell ⟨g, k * 2, none⟩ (.int .i64 O)).setCell ⟨g, k * 2 + 1, none⟩ (.slice an M.length cn)).heap.size = Wq.heap.size := by simp
  refine ⟨by rw [List.length_set]; exact hI.len, ?_, ((hI.own.keep kW).set hkK O an M.length cn).1, ?_, ?_, by omega, ?_⟩
  · intro j hj
    rw [getD_setT K k _ hkK]
    by_cases e : j = k
    · rw [if_pos e, e, hT]; exact ⟨rfl, rfl, hc⟩
    · rw [if_neg e]; exact hI.eq j (by omega)
  · intro j hj
    rw [getD_setT K k _ hkK]
    by_cases e : j = k
    · rw [if_pos e, e, hT]
      exact hC.same (fun b hb => hb2 b (by have := hb.1; omega)) (fun b hb => ⟨by have := hb.1; omega, by have := hb.2; omega⟩)
    · rw [if_neg e]
      refine (hI.ct j (by omega)).same (fun b hb => ?_) (fun b hb => ⟨hb.1, by have := hb.2; omega⟩)
      rw [hb2 b (by have := hb.1; omega)]
      exact kW.block b hb.2
  · exact ((hI.kp.trans kW).setCell (p := ⟨g, k * 2, none⟩) hgB _).setCell (p := ⟨g, k * 2 + 1, none⟩) hgB _
  · intro b hb hne
    rw [hb2 b (fun e => hne (by rw [e]; rfl)), kW.block b (by omega)]
    exact hI.low b hb hne
theorem MJt.rdT {us : List (Int × List Nd)} {w1 W wr wf : World} {ta : Option Addr} {ct : Nat} {K : List (Int × Option Addr × Nat × Nat)} (hI : MJt us w1 W (.slice ta us.length ct) us.length wr K) (hs : ∀ b, w1.heap.size ≤ b → wf.heap[b]? = wr.heap[b]?) (hW : w1.heap.size ≤ W.heap.size)
    (hn : ∀ j, j < us.length → (∀ i, i < (us.getD j (0, [])).2.length → ((us.getD j (0, [])).2.getD i nd0).cs.length ≤ 17592186044416 ∧ ((us.getD j (0, [])).2.getD i nd0).Fit) ∧ (us.getD j (0, [])).2.length ≤ 2199023255552 ∧ (-9223372036854775808 ≤ (us.getD j (0, [])).1 ∧ (us.getD j (0, [])).1 ≤ 9223372036854775807)) : RdT wf ta us ∧ us.length ≤ ct := by
  have ho : OwnT w1.heap.size wf (.slice ta us.length ct) K := hI.own.same (fun b hb => hs b (hI.own.block hb).1)
  obtain ⟨a', c', e, hc, hr⟩ := ho.shape
  simp only [Value.slice.injEq] at e
  obtain ⟨rfl, -, rfl⟩ := e
  rw [hI.len] at hc
  refine ⟨?_, hc⟩
  intro j hj
  obtain ⟨b, rfl, hb⟩ := hr j (by rw [hI.len]; exact hj)
  obtain ⟨hn, hl, hf⟩ := hn j hj
  obtain ⟨e1, e2, e3⟩ := hI.eq j hj
  have hC : CT wf (fun _ => True) _ _ _ := (hI.ct j hj).same (fun b hb => hs b (by have := hb.1; omega)) (fun _ _ => trivial)
  have c0 := hb 0 _ (by omega) rfl
  have c1 := hb 1 _ (by omega) rfl
  rw [e1] at c0
  rw [e2] at c1
  exact ⟨b, 0, _, _, rfl, by rw [Nat.zero_add]; exact c0, by rw [Nat.zero_add]; exact c1, hC.rdN2 hn, e3, hl, hf⟩
end Go.Proofs.Ytbchinfmdioijaa
set_option linter.unusedVariables false
set_option linter.unusedSimpArgs false
namespace Go.Proofs.Ytbchinfmdioijaa
open Go.RowKit Go.Shelf
theorem WS.of_own {A : Nat → Prop} {B : Nat} {w : World} {E z M : Nat} {v : Value} {n : Nat} {xs : List Value} (h : w.ownsRow B E z v n xs) (hA : ∀ g, v.ownBlock = some g → A g) (hM : n ≤ M) : ∃ cur, WS A w E z M v n cur ∧ ∀ i, i < n * z → cur[i]? = xs[i]? := by
  obtain ⟨hl, ⟨rfl, rfl⟩ | ⟨g, cap, cur, rfl, hg, hh, hnc, hcm, hcs, ht⟩⟩ := h
  · exact ⟨#[], .inl ⟨rfl, rfl⟩, fun i hi => by simp at hi⟩
  · refine ⟨cur, .inr ⟨g, cap, rfl, hA g rfl, ⟨hh, hnc, hcm, hcs⟩, hM⟩, fun i hi => ?_⟩
    rw [← ht, List.getElem?_take, if_pos hi, Array.getElem?_toList]
theorem WS.mono {A A' : Nat → Prop} {w : World} {E z M M' : Nat} {v : Value} {n : Nat} {cur : Array Value} (h : WS A w E z M v n cur) (hA : ∀ b, A b → A' b) (hM : M ≤ M') : WS A' w E z M' v n cur := by
  rcases h with h | ⟨g, cap, hv, h1, hr, h2⟩
  · exact .inl h
  · exact .inr ⟨g, cap, hv, hA g h1, hr, by omega⟩
theorem NdW.mono {A A' : Nat → Prop} {w : World} {MN : Nat} {bc : Nat → Nat} {v : Value} {n : Nat} (h : NdW A w MN bc v n) (hA : ∀ b, A b → A' b) : NdW A' w MN bc v n := by
  obtain ⟨cur, h1, h2⟩ := h
  refine ⟨cur, h1.mono hA (Nat.le_refl _), fun k hk => ?_⟩
  obtain ⟨cv, e, n, c, h3⟩ := h2 k hk
  exact ⟨cv, e, n, c, h3.mono hA (Nat.le_refl _)⟩
theorem NdW.of_ct {A S : Nat → Prop} {w : World} {a : Option Addr} {c : Nat} {L : List Nd} (h : CT w S a c L) (hS : ∀ b, S b → A b) {MN C : Nat} (hM : L.length ≤ MN) (hC : ∀ j, j < L.length → (L.getD j nd0).cs.length ≤ C) : NdW A w MN (fun _ => C) (.slice a L.length c) L.length := by
  obtain ⟨K, h1, h2, h3, h4, h5, h6⟩ := h
  have h3' : w.ownsRow 0 40 8 (.slice a L.length c) L.length (UN K) := by have := h3; unfold OwnN at this; rw [h1] at this; exact this
  obtain ⟨cur, hw, hx⟩ := WS.of_own h3' (fun g hg => hS g (h5 g hg)) hM
  refine ⟨cur, hw, fun k hk => ?_⟩
  have e := hx (k * 8 + 4) (by omega)
  rw [UN_get K k 4 (by omega) (by omega)] at e
  have hz := h4 k hk
  unfold OwnZ at hz
  obtain ⟨c2, hw2, -⟩ := WS.of_own hz (fun g hg => hS g (h6 k hk g hg)) (by rw [h2 k hk]; exact hC k hk)
  exact ⟨_, e, _, c2, hw2⟩
/-- What can be spoilt. -/
structure SpB (A : Nat → Prop) (w : World) (MF MB MT : Nat) (fv bv tv : Value) (T : Nat) (nv : Nat → Value) (nn MN : Nat → Nat) (bc : Nat → Nat → Nat) : Prop where
  f : ∃ n cur, WS A w 9 1 MF fv n cur
  b : ∃ n cur, WS A w 2 1 MB bv n cur
  t : ∃ cur, WS A w 24 2 MT tv T cur ∧ ∀ i, i < T → cur[i * 2 + 1]? = some (nv i)
  n : ∀ i, i < T → NdW A w (MN i) (bc i) (nv i) (nn i)
  ap : ∀ i j, i < T → j < T → i ≠ j → ∀ b, (nv i).ownBlock = some b → (nv j).ownBlock ≠ some b
section
variable {A A' : Nat → Prop} {w wr w' : World} {gb : Nat} {nm N : Value} {MF MB MT : Nat} {fv bv tv : Value} {T : Nat} {nv : Nat → Value} {nn MN : Nat → Nat} {bc : Nat → Nat → Nat}
theorem SpB.mono (h : SpB A w MF MB MT fv bv tv T nv nn MN bc) (hA : ∀ b, A b → A' b) : SpB A' w MF MB MT fv bv tv T nv nn MN bc := by
  obtain ⟨n1, c1, h1⟩ := h.f
  obtain ⟨n2, c2, h2⟩ := h.b
  obtain ⟨c3, h3, h4⟩ := h.t
  exact ⟨⟨n1, c1, h1.mono hA (Nat.le_refl _)⟩, ⟨n2, c2, h2.mono hA (Nat.le_refl _)⟩, ⟨c3, h3.mono hA (Nat.le_refl _), h4⟩, fun i hi => (h.n i hi).mono hA, h.ap⟩
theorem WS.same' {E z M : Nat} {v : Value} {n : Nat} {cur : Array Value} (h : WS A w E z M v n cur) (k : ∀ b, A b → b < w.heap.size → w'.heap[b]? = w.heap[b]?) : WS A w' E z M v n cur := h.same fun b hb => k b (h.blk hb).1 (Array.getElem?_eq_some_iff.1 (h.blk hb).2).1
/-- All blocks of A stand. -/
theorem SpB.same (h : SpB A w MF MB MT fv bv tv T nv nn MN bc) (k : ∀ b, A b → b < w.heap.size → w'.heap[b]? = w.heap[b]?) : SpB A w' MF MB MT fv bv tv T nv nn MN bc := by
  obtain ⟨n1, c1, h1⟩ := h.f
  obtain ⟨n2, c2, h2⟩ := h.b
  obtain ⟨c3, h3, h4⟩ := h.t
  refine ⟨⟨n1, c1, h1.same' k⟩, ⟨n2, c2, h2.same' k⟩, ⟨c3, h3.same' k, h4⟩, fun i hi => ?_, h.ap⟩
  obtain ⟨cur, q1, q2⟩ := h.n i hi
  refine ⟨cur, q1.same' k, fun j hj => ?_⟩
  obtain ⟨cv, e, n, c, hc⟩ := q2 j hj
  exact ⟨cv, e, n, c, hc.same' k⟩
theorem SpB.spI (h : SpB A w MF MB MT fv bv tv T nv nn MN bc) (hA : ∀ b, w.heap.size ≤ b → A b) (k : Keep w w') (hb : w'.heap[gb]? = some (.cells #[nm, fv, N, bv, tv] 52 (0, 0))) : SpI A w gb nm N MF MB MT w' fv bv tv T nv nn MN bc := by
  have h' := h.same (w' := w') (fun b _ hb => k.block b hb)
  exact ⟨k.os, k.tape, k.output, k.size, fun b hb _ => k.block b hb, hA, hb, h'.f, h'.b, h'.t, h'.n, h'.ap⟩
end
theorem SpB.none (A : Nat → Prop) (w : World) : SpB A w 0 0 0 (.slice none 0 0) (.slice none 0 0) (.slice none 0 0) 0 (fun _ => .slice none 0 0) (fun _ => 0) (fun _ => 0) (fun _ _ => 0) :=
  ⟨⟨0, #[], .inl ⟨rfl, rfl⟩⟩, ⟨0, #[], .inl ⟨rfl, rfl⟩⟩, ⟨#[], .inl ⟨rfl, rfl⟩, fun i hi => by omega⟩, fun i hi => by omega, fun i j hi => by omega⟩
end Go.Proofs.Ytbchinfmdioijaa
set_option linter.unusedVariables false
set_option linter.unusedSimpArgs false
namespace Go.Proofs.Ytbchinfmdioijaa
open Go.RowKit Go.Shelf
theorem WS.at {A : Nat → Prop} {w : World} {E z M : Nat} {g n cap : Nat} {cur : Array Value} (h : WS A w E z M (.slice (some ⟨g, 0, none⟩) n cap) n cur) {i : Nat} (hi : i < n * z) : ∃ u, cur[i]? = some u ∧ w.cell? ⟨g, i, none⟩ = some u ∧ w.frozen? ⟨g, i, none⟩ = false := by
  rcases h with ⟨h, -⟩ | ⟨g', cap', hv, hA, hr, hM⟩
  · simp at h
  · simp only [Value.slice.injEq, Option.some.injEq, Addr.mk.injEq, and_true, true_and] at hv
    obtain ⟨rfl, rfl⟩ := hv
    have hs : i < cur.size := by rw [hr.2.2.2]; exact Nat.lt_of_lt_of_le hi (Nat.mul_le_mul_right _ hr.2.1)
    exact ⟨cur[i], Array.getElem?_eq_getElem hs, by rw [cell_of_row w g i cur E (0, 0) hr.1]; exact Array.getElem?_eq_getElem hs, frozen_of_row w g i cur E hr.1⟩
theorem WS.shape {A : Nat → Prop} {w : World} {E z M : Nat} {v : Value} {n : Nat} {cur : Array Value} (h : WS A w E z M v n cur) : ∃ a c, v = .slice a n c ∧ (0 < n → ∃ g, a = some ⟨g, 0, none⟩) := by
  rcases h with ⟨rfl, rfl⟩ | ⟨g, cap, rfl, -⟩
  · exact ⟨none, 0, rfl, fun h => by omega⟩
  · exact ⟨some ⟨g, 0, none⟩, cap, rfl, fun _ => ⟨g, rfl⟩⟩
theorem WS.room {A : Nat → Prop} {w : World} {E z M : Nat} {g n cap : Nat} {cur : Array Value} (h : WS A w E z M (.slice (some ⟨g, 0, none⟩) n cap) n cur) : n * z ≤ cur.size ∧ w.heap[g]? = some (.cells cur E (0, 0)) := by
  rcases h with ⟨h, -⟩ | ⟨g', cap', hv, hA, hr, hM⟩
  · simp at h
  · simp only [Value.slice.injEq, Option.some.injEq, Addr.mk.injEq, and_true, true_and] at hv
    obtain ⟨rfl, rfl⟩ := hv
    exact ⟨by rw [hr.2.2.2]; exact Nat.mul_le_mul_right _ hr.2.1, hr.1⟩
/-- A node's categories are written. -/
theorem NdW.setC {A : Nat → Prop} {w : World} {MN M : Nat} {bc : Nat → Nat} {g n cap k : Nat} {cv : Value} (h : NdW A w MN bc (.slice (some ⟨g, 0, none⟩) n cap) n) (hk : k < n) (hc : CsW A w M cv) : NdW A (w.setCell ⟨g, k * 8 + 4, none⟩ cv) MN (fun j => if j = k then M else bc j) (.slice (some ⟨g, 0, none⟩) n cap) n := by
  obtain ⟨cur, h1, h2⟩ := h
  obtain ⟨hs, hg⟩ := h1.room
  have kO := One.set g (k * 8 + 4) w cv
  refine ⟨_, h1.set (k * 8 + 4) cv, fun j hj => ?_⟩
  simp only [Array.getElem?_setIfInBounds]
  by_cases e : j = k
  · subst e
    rw [if_pos rfl, if_pos (by omega), if_pos rfl]
    exact ⟨cv, rfl, hc.other kO hg (by decide)⟩
  · rw [if_neg (by omega), if_neg e]
    obtain ⟨u, e1, hu⟩ := h2 j hj
    exact ⟨u, e1, hu.other kO hg (by decide)⟩
/-- Another cell of a node is written. -/
theorem NdW.setK {A : Nat → Prop} {w : World} {MN : Nat} {bc : Nat → Nat} {g n cap i : Nat} {u : Value} (h : NdW A w MN bc (.slice (some ⟨g, 0, none⟩) n cap) n) (hi : ∀ j, i ≠ j * 8 + 4) : NdW A (w.setCell ⟨g, i, none⟩ u) MN bc (.slice (some ⟨g, 0, none⟩) n cap) n := by
  obtain ⟨cur, h1, h2⟩ := h
  obtain ⟨hs, hg⟩ := h1.room
  have kO := One.set g i w u
  refine ⟨_, h1.set i u, fun j hj => ?_⟩
  simp only [Array.getElem?_setIfInBounds]
  rw [if_neg (hi j)]
  obtain ⟨x, e1, hu⟩ := h2 j hj
  exact ⟨x, e1, hu.other kO hg (by decide)⟩
/-- What is left of it behind the trees. -/
structure SpF (A : Nat → Prop) (w : World) (gb : Nat) (nm N : Value) (MF MB MT : Nat) (wr : World) (fv bv tv : Value) : Prop where
  os : wr.os = w.os
  tape : wr.tape = w.tape
  output : wr.output = w.output
  size : w.heap.size ≤ wr.heap.size
  kp : ∀ b, b < w.heap.size → ¬ A b → wr.heap[b]? = w.heap[b]?
  nw : ∀ b, w.heap.size ≤ b → A b
  bx : wr.heap[gb]? = some (.cells #[nm, fv, N, bv, tv] 52 (0, 0))
  f : ∃ n cur, WS A wr 9 1 MF fv n cur
  b : ∃ n cur, WS A wr 2 1 MB bv n cur
  t : ∃ n cur, WS A wr 24 2 MT tv n cur
section
variable {A : Nat → Prop} {w wr w' : World} {gb : Nat} {nm N : Value} {MF MB MT : Nat} {fv bv tv : Value} {T : Nat} {nv : Nat → Value} {nn MN : Nat → Nat} {bc : Nat → Nat → Nat}
theorem SpI.spF (h : SpI A w gb nm N MF MB MT wr fv bv tv T nv nn MN bc) : SpF A w gb nm N MF MB MT wr fv bv tv := by
  obtain ⟨c, h1, -⟩ := h.t
  exact ⟨h.os, h.tape, h.output, h.size, h.kp, h.nw, h.bx, h.f, h.b, ⟨_, c, h1⟩⟩
theorem SpF.keep (h : SpF A w gb nm N MF MB MT wr fv bv tv) (k : Keep wr w') : SpF A w gb nm N MF MB MT w' fv bv tv := by
  obtain ⟨n1, c1, h1⟩ := h.f
  obtain ⟨n2, c2, h2⟩ := h.b
  obtain ⟨n3, c3, h3⟩ := h.t
  exact ⟨k.os.trans h.os, k.tape.trans h.tape, k.output.trans h.output, Nat.le_trans h.size k.size, fun b hb hA => (k.block b (Nat.lt_of_lt_of_le hb h.size)).trans (h.kp b hb hA), h.nw, (k.block _ (Array.getElem?_eq_some_iff.1 h.bx).1).trans h.bx, ⟨n1, c1, h1.keep k⟩, ⟨n2, c2, h2.keep k⟩, ⟨n3, c3, h3.keep k⟩⟩
/-- One block has turned, or is new. -/
theorem SpF.one {g0 E0 : Nat} {v0 : Value} {c0 : Array Value} (h : SpF A w gb nm N MF MB MT wr fv bv tv) (k : One g0 wr w') (hA : A g0) (hg : (v0.ownBlock = some g0 ∧ wr.heap[g0]? = some (.cells c0 E0 (0, 0))) ∨ wr.heap.size ≤ g0) (h52 : 52 ≠ E0) :
    w'.os = w.os ∧ w'.tape = w.tape ∧ w'.output = w.output ∧ w.heap.size ≤ w'.heap.size ∧ (∀ b, b < w.heap.size → ¬ A b → w'.heap[b]? = w.heap[b]?) ∧ w'.heap[gb]? = some (.cells #[nm, fv, N, bv, tv] 52 (0, 0)) ∧ ∀ (E z M : Nat) (v : Value) (n : Nat) (cur : Array Value), E ≠ E0 → WS A wr E z M v n cur → WS A w' E z M v n cur := by
  refine ⟨k.os.trans h.os, k.tape.trans h.tape, k.output.trans h.output, Nat.le_trans h.size k.size, fun b hb hn => (k.oth b (Nat.lt_of_lt_of_le hb h.size) (fun e => hn (by rw [e]; exact hA))).trans (h.kp b hb hn), ?_, fun E z M v n cur hE hw => hw.same fun b hb => ?_⟩
  · have hbl := (Array.getElem?_eq_some_iff.1 h.bx).1
    rw [k.oth gb hbl (fun e => ?_)]
    · exact h.bx
    · rcases hg with ⟨-, hg⟩ | hg
      · have := h.bx
        rw [e, hg] at this
        simp at this
        exact h52 this.2.symm
      · omega
  · have hb2 := (hw.blk hb).2
    refine k.oth b (Array.getElem?_eq_some_iff.1 hb2).1 (fun e => ?_)
    rcases hg with ⟨-, hg⟩ | hg
    · rw [e, hg] at hb2; simp at hb2; exact hE hb2.2.symm
    · have := (Array.getElem?_eq_some_iff.1 hb2).1; omega
/-- The box is written. -/
theorem SpF.box {i : Nat} {u fv' bv' tv' : Value} {M1 M2 M3 : Nat} (hb : wr.heap[gb]? = some (.cells #[nm, fv, N, bv, tv] 52 (0, 0))) (hu : (#[nm, fv, N, bv, tv] : Array Value).setIfInBounds i u = #[nm, fv', N, bv', tv'])
    (h0 : wr.os = w.os ∧ wr.tape = w.tape ∧ wr.output = w.output ∧ w.heap.size ≤ wr.heap.size ∧ (∀ b, b < w.heap.size → ¬ A b → wr.heap[b]? = w.heap[b]?)) (hn : ∀ b, w.heap.size ≤ b → A b) (hA : A gb)
    (h1 : ∃ n cur, WS A wr 9 1 M1 fv' n cur) (h2 : ∃ n cur, WS A wr 2 1 M2 bv' n cur) (h3 : ∃ n cur, WS A wr 24 2 M3 tv' n cur) : SpF A w gb nm N M1 M2 M3 (wr.setCell ⟨gb, i, none⟩ u) fv' bv' tv' := by
  obtain ⟨n1, c1, h1⟩ := h1
  obtain ⟨n2, c2, h2⟩ := h2
  obtain ⟨n3, c3, h3⟩ := h3
  have k := One.set gb i wr u
  refine ⟨h0.1, h0.2.1, h0.2.2.1, by simp; exact h0.2.2.2.1, fun b hb hnA => (neq_set wr gb i u b (fun e => hnA (by rw [e]; exact hA))).trans (h0.2.2.2.2 b hb hnA), hn, ?_, ⟨n1, c1, h1.other k hb (by decide)⟩, ⟨n2, c2, h2.other k hb (by decide)⟩, ⟨n3, c3, h3.other k hb (by decide)⟩⟩
  rw [← hu]
  exact heap_setCell_same wr gb i _ 52 u hb
end
/-- append to such a row, as a step of a walk. -/
theorem wpList_appWS {S E z by' : Nat} {zv : Value} (hS : Try.prog.underlying S = some (.slice E)) (iE : (Try.prog.info? E).map (fun i => (i.zero, i.size, i.bytes)) = some (some zv, z, by')) (hzc : zv.cells.size = z) {A : Nat → Prop} {w : World} {ops : Array Oper} {rest : List Oper} {o : Oper} {a : Act} {Q : Exit → Act → World → Prop} (hgd : o.guard = none) (s x : Operand)
    (hop : o.op = .call { callee := .builtin .append, args := #[s, x], argTypes := #[S, S] }) (M n : Nat) (v : Value) (cur : Array Value) (hs : a.eval s = v) (hr : WS A w E z M v n cur) (hA : ∀ b, w.heap.size ≤ b → A b) (ad : Addr) (m c : Nat) (hx : a.eval x = .slice (some ad) m c) (hm : 0 < m) (ys : List Value) (hl : ys.length = m * z) (hnews : ∀ j u, ys[j]? = some u → w.cell? (ad.add j) = some u) (h1 : ∀ u ∈ ys, u.oneCell' = true) (h63 : M + m ≤ 4611686018427387904) (hb : ((M + m) + (M + m) / 4 + 192) * by' ≤ 281474976710656)
    (hK : ∀ g' cap' cur' w', WS A w' E z (M + m) (.slice (some ⟨g', 0, none⟩) (n + m) cap') (n + m) cur' → A g' → One g' w w' → ((v.ownBlock = some g' ∧ w.heap[g']? = some (.cells cur E (0, 0))) ∨ w.heap.size ≤ g') → wpList Try.prog ops Q rest (a.put o.dst (.slice (some ⟨g', 0, none⟩) (n + m) cap')) w') :
    wpList Try.prog ops Q (o :: rest) a w := by
  refine wpList_plain hgd fun K hK' => ?_
  obtain ⟨g', cap', cur', w', hrun, r1, r2, r3, -, -, r4⟩ := appWS_run hS iE hzc w o.type M n v cur hr hA ad m c hm ys hl hnews h1 h63 hb
  unfold Oper.wp
  simp [execOp, hop, resolve, invoke, builtin, hs, hx, hrun, Result.andThen]
  refine hK' _ _ (hK g' cap' cur' w' r1 r2 r3 ?_)
  rcases r4 with ⟨h1, h2, -⟩ | h
  · exact .inl ⟨h1, h2⟩
  · exact .inr (by omega)
section
variable {A : Nat → Prop} {w wr w1 w' : World} {gb : Nat} {nm N : Value} {MF MB MT : Nat} {fv bv tv : Value} {T : Nat} {nv : Nat → Value} {nn MN : Nat → Nat} {bc : Nat → Nat → Nat}
/-- Nodes have grown: as a step of a region. -/
theorem SpI.step_appN {ops : Array Oper} {o : Oper} {a : Act} {K : Act → World → Prop} {Q : Exit → Act → World → Prop} {X : Prop} (h : SpI A w gb nm N MF MB MT wr fv bv tv T nv nn MN bc) {i0 : Nat} (hi : i0 < T) (hgd : o.guard = none) (s x : Operand) (ho : o.op = .call { callee := .builtin .append, args := #[s, x], argTypes := #[22, 22] }) (B0 : Nat) (hlit : wr.heap[B0]? = some (.cells (zn ++ zn).toArray 40 (0, 0))) (hM : MN i0 ≤ 1759218604441) (v : Value) (hv : nv i0 = v) (hs : a.eval s = v) (hx : a.eval x = .slice (some ⟨B0, 0, none⟩) 2 2)
    (hK : ∀ g' cap' w', NdW A w' (MN i0 + 2) (fun k => if k < nn i0 then bc i0 k else 0) (.slice (some ⟨g', 0, none⟩) (nn i0 + 2) cap') (nn i0 + 2) → A g' → One g' wr w' → ((nv i0).ownBlock = some g' ∨ wr.heap.size ≤ g') → K (a.put o.dst (.slice (some ⟨g', 0, none⟩) (nn i0 + 2) cap')) w') :
    if Region.wanted o (yielded ops a.tmps) = true then Oper.wp Try.prog o a wr K Q else X := by
  have hw : Region.wanted o (yielded ops a.tmps) = true := by simp [Region.wanted, hgd]
  rw [if_pos hw]
  obtain ⟨g', cap', w', hr, h1, h2, h3, h4⟩ := h.appN hi o.type ⟨B0, 0, none⟩ 2 (by
    intro j u hj
    rw [Addr.add_lit, Nat.zero_add, cell_of_row wr B0 j _ 40 (0, 0) hlit, ← hj]
    simp) hM
  rw [hv] at hr
  unfold Oper.wp execOp
  simp only [ho, resolve, invoke, builtin, Sem.run_bind, Sem.run_pure, Result.andThen_ok, List.map_toArray, List.map_cons, List.map_nil, hs, hx, hr]
  exact hK g' cap' w' h1 h2 h3 h4
/-- What stands while nodes have grown. -/
theorem SpI.mid {gt ct g' i0 : Nat} (h : SpI A w gb nm N MF MB MT wr fv bv (.slice (some ⟨gt, 0, none⟩) T ct) T nv nn MN bc) (hi : i0 < T) (k : One g' wr w1) (hg' : (nv i0).ownBlock = some g' ∨ wr.heap.size ≤ g') :
    w1.cell? ⟨gb, 4, none⟩ = some (.slice (some ⟨gt, 0, none⟩) T ct) ∧ (∃ u, w1.cell? ⟨gt, i0 * 2 + 1, none⟩ = some u) ∧ w1.frozen? ⟨gt, i0 * 2 + 1, none⟩ = false := by
  obtain ⟨d3, h3, h4⟩ := h.t
  obtain ⟨hAt, hgt⟩ := h3.blk (b := gt) rfl
  have hty : ∀ (b E : Nat) (c : Array Value), E ≠ 40 → wr.heap[b]? = some (.cells c E (0, 0)) → w1.heap[b]? = some (.cells c E (0, 0)) := by
    intro b E c hE hb
    rw [k.oth b (Array.getElem?_eq_some_iff.1 hb).1 (fun e => ?_)]
    · exact hb
    · rcases hg' with hq | hq
      · obtain ⟨cur, hw, -⟩ := h.n i0 hi
        have := (hw.blk hq).2
        rw [← e, hb] at this
        simp at this
        exact hE this.2
      · have := (Array.getElem?_eq_some_iff.1 hb).1; omega
  have hgt1 := hty gt 24 d3 (by decide) hgt
  have hb1 := hty gb 52 _ (by decide) h.bx
  have b4 := cell_of_row _ _ 4 _ 52 (0, 0) hb1
  simp only [List.getElem?_toArray, List.getElem?_cons_zero, List.getElem?_cons_succ] at b4
  exact ⟨b4, ⟨nv i0, (cell_of_row w1 gt (i0 * 2 + 1) d3 24 (0, 0) hgt1).trans (h4 i0 hi)⟩, frozen_of_row w1 gt _ d3 24 hgt1⟩
end
end Go.Proofs.Ytbchinfmdioijaa
set_option linter.unusedVariables false
set_option linter.unusedSimpArgs false
namespace Go.Proofs.Ytbchinfmdioijaa
open Go.RowKit Go.Shelf
theorem own_mono {w : World} {B B' E z : Nat} {v : Value} {n : Nat} {xs : List Value} (h : w.ownsRow B E z v n xs) (hB : B' ≤ B) : w.ownsRow B' E z v n xs := by
  refine ⟨h.1, ?_⟩
  rcases h.2 with h2 | ⟨g, cap, cur, hv, hg, r⟩
  · exact .inl h2
  · exact .inr ⟨g, cap, cur, hv, Nat.le_trans hB hg, r⟩
/-- Two cells of nodes fit. -/
def Fits (ts : List (Int × List Nd)) : Prop := ∀ j, j < ts.length → (∀ i, i < (ts.getD j (0, [])).2.length → ((ts.getD j (0, [])).2.getD i nd0).cs.length ≤ 17592186044416 ∧ ((ts.getD j (0, [])).2.getD i nd0).Fit) ∧ (ts.getD j (0, [])).2.length ≤ 2199023255552 ∧ (-9223372036854775808 ≤ (ts.getD j (0, [])).1 ∧ (ts.getD j (0, [])).1 ≤ 9223372036854775807)
theorem RdT.fits {w : World} {a : Option Addr} {ts : List (Int × List Nd)} (h : RdT w a ts) : Fits ts := by
  intro j hj
  obtain ⟨b, o, na, nc, -, -, -, hn, -, hl, hf⟩ := h j hj
  refine ⟨fun i hi => ?_, hl, hf⟩
  obtain ⟨b0, o0, ca0, cp0, -, h0⟩ := hn i hi
  exact ⟨h0.sz, h0.ok⟩
/-- An ensemble whose rows lie in blocks of S. -/
structure EnsIn (S : Nat → Prop) (w : World) (fa : Option Addr) (fs : List ByteArray) (cf : Nat) (ba : Option Addr) (bs : List Int) (cb : Nat) (ta : Option Addr) (ts : List (Int × List Nd)) (ct : Nat) : Prop where
  s : OwnS 0 w (.slice fa fs.length cf) fs ∧ ∀ b, (Value.slice fa fs.length cf).ownBlock = some b → S b
  z : OwnZ 2 0 w (.slice ba bs.length cb) bs ∧ ∀ b, (Value.slice ba bs.length cb).ownBlock = some b → S b
  t : ∃ K, K.length = ts.length ∧ OwnT 0 w (.slice ta ts.length ct) K ∧ (∀ b, (Value.slice ta ts.length ct).ownBlock = some b → S b) ∧ (∀ j, j < ts.length → (K.getD j tt0).1 = (ts.getD j (0, [])).1 ∧ (K.getD j tt0).2.2.1 = (ts.getD j (0, [])).2.length ∧ (ts.getD j (0, [])).2.length ≤ (K.getD j tt0).2.2.2) ∧ ∀ j, j < ts.length → CT w S (K.getD j tt0).2.1 (K.getD j tt0).2.2.2 (ts.getD j (0, [])).2
  n : Fits ts
section
variable {S S' : Nat → Prop} {w w' : World} {fa : Option Addr} {fs : List ByteArray} {cf : Nat} {ba : Option Addr} {bs : List Int} {cb : Nat} {ta : Option Addr} {ts : List (Int × List Nd)} {ct : Nat}
theorem EnsIn.same (h : EnsIn S w fa fs cf ba bs cb ta ts ct) (hs : ∀ b, S b → w'.heap[b]? = w.heap[b]?) : EnsIn S w' fa fs cf ba bs cb ta ts ct := by
  obtain ⟨K, h1, h2, h3, h4, h5⟩ := h.t
  exact ⟨⟨h.s.1.same fun b hb => hs b (h.s.2 b hb), h.s.2⟩, ⟨h.z.1.same fun b hb => hs b (h.z.2 b hb), h.z.2⟩, ⟨K, h1, h2.same fun b hb => hs b (h3 b hb), h3, h4, fun j hj => (h5 j hj).same hs fun _ h => h⟩, h.n⟩
theorem EnsIn.rd (h : EnsIn S w fa fs cf ba bs cb ta ts ct) : RdS w fa fs ∧ RdI w ba bs ∧ RdT w ta ts := by
  obtain ⟨K, h1, h2, -, h3, h4⟩ := h.t
  refine ⟨?_, ?_, ?_⟩
  · obtain ⟨a, c, e, -, hr⟩ := h.s.1.shape
    simp only [Value.slice.injEq] at e
    rw [e.1]; exact hr
  · obtain ⟨a, c, e, -, hr⟩ := h.z.1.shape
    simp only [Value.slice.injEq] at e
    rw [e.1]; exact hr
  · obtain ⟨a', c', e, hc, hr⟩ := h2.shape
    simp only [Value.slice.injEq] at e
    obtain ⟨rfl, -, rfl⟩ := e
    intro j hj
    obtain ⟨b, rfl, hb⟩ := hr j (by omega)
    obtain ⟨hn, hl, hf⟩ := h.n j hj
    obtain ⟨e1, e2, e3⟩ := h3 j hj
    have hC := h4 j hj
    have c0 := hb 0 _ (by omega) rfl
    have c1 := hb 1 _ (by omega) rfl
    rw [e1] at c0
    rw [e2] at c1
    exact ⟨b, 0, _, _, rfl, by rw [Nat.zero_add]; exact c0, by rw [Nat.zero_add]; exact c1, hC.rdN2 hn, e3, hl, hf⟩
end
theorem EnsIn.none (S : Nat → Prop) (w : World) : EnsIn S w none [] 0 none [] 0 none [] 0 :=
  ⟨⟨OwnS.nil 0 w, fun b hb => by cases hb⟩, ⟨OwnZ.nil 2 0 w, fun b hb => by cases hb⟩, ⟨[], rfl, OwnT.nil 0 w, fun b hb => (by cases hb), fun j hj => by simp at hj, fun j hj => by simp at hj⟩, fun j hj => by simp at hj⟩
/-- Rows from B on, below the heap's end. -/
theorem EnsIn.of {B : Nat} {w : World} {fa : Option Addr} {fs : List ByteArray} {cf : Nat} {ba : Option Addr} {bs : List Int} {cb : Nat} {ta : Option Addr} {ts : List (Int × List Nd)} {ct : Nat} {K : List (Int × Option Addr × Nat × Nat)}
    (hs : OwnS B w (.slice fa fs.length cf) fs) (hz : OwnZ 2 B w (.slice ba bs.length cb) bs) (hK : K.length = ts.length) (ht : OwnT B w (.slice ta ts.length ct) K) (he : ∀ j, j < ts.length → (K.getD j tt0).1 = (ts.getD j (0, [])).1 ∧ (K.getD j tt0).2.2.1 = (ts.getD j (0, [])).2.length ∧ (ts.getD j (0, [])).2.length ≤ (K.getD j tt0).2.2.2) (hc : ∀ j, j < ts.length → CT w (fun b => B ≤ b ∧ b < w.heap.size) (K.getD j tt0).2.1 (K.getD j tt0).2.2.2 (ts.getD j (0, [])).2) (hn : Fits ts) :
    EnsIn (fun b => B ≤ b ∧ b < w.heap.size) w fa fs cf ba bs cb ta ts ct :=
  ⟨⟨own_mono hs (Nat.zero_le _), fun b hb => World.ownsRow.lt hs b hb⟩, ⟨own_mono hz (Nat.zero_le _), fun b hb => World.ownsRow.lt hz b hb⟩, ⟨K, hK, own_mono ht (Nat.zero_le _), fun b hb => World.ownsRow.lt ht b hb, he, hc⟩, hn⟩
set_option maxRecDepth 100000 in
set_option maxHeartbeats 2000000 in
theorem rModel_own (nm : ByteArray) (fa : Option Addr) (fs : List ByteArray) (cf : Nat) (N : Int) (ba : Option Addr) (base : List Int) (cb : Nat) (ta : Option Addr) (ts : List (Int × List Nd)) (ct : Nat) (w : World)
    (hf : RdS w fa fs) (hfl : fs.length ≤ 8796093022208) (hb : RdI w ba base) (hbl : base.length ≤ 17592186044416) (ht : RdT w ta ts) (htl : ts.length ≤ 4398046511104) (hts : ∀ j, j < ts.length → (ts.getD j (0, [])).2.length ≤ 1759218604441) :
    Calls Try.prog 34 #[ens nm fa fs.length cf N ba base.length cb ta ts.length ct] w fun e w' => ((mdE ts = 0 ∧ ∃ fa' cf' ba' cb' ta' ct', e = .returned (.tuple #[ens nm fa' fs.length cf' N ba' base.length cb' ta' ts.length ct', .int .i64 0]) ∧ EnsIn (fun b => w.heap.size ≤ b ∧ b < w'.heap.size) w' fa' fs cf' ba' base cb' ta' (mdT ts) ct') ∨ (mdE ts ≠ 0 ∧ e = .returned (.tuple #[ens ⟨#[]⟩ none 0 0 0 none 0 0 none 0 0, .int .i64 (mdE ts)]))) ∧ Keep w w' := by
  have hH := fun (wx : World) (k : Keep w wx) => rCopy_own nm fa fs cf N ba base cb ta ts ct wx (hf.keep k) hfl (hb.keep k) hbl (ht.keep k) htl hts
  unfold ens at hH ⊢
  have hml : (mdT ts).length = ts.length := by simp [mdT]
  obtain ⟨w1, hw1, k1, s1, r0, r1⟩ := boxes2n w #[Value.string nm, Value.slice fa fs.length cf, Value.int IntKind.i64 N, Value.slice ba base.length cb, Value.slice ta ts.length ct] #[Value.string { data := #[] }, Value.slice none 0 0, Value.int IntKind.i64 0, Value.slice none 0 0, Value.slice none 0 0] 52 52
  have hz0 : w.heap.size < w1.heap.size := (Array.getElem?_eq_some_iff.1 r0).1
  have hz1 : w.heap.size + 1 < w1.heap.size := (Array.getElem?_eq_some_iff.1 r1).1
  replace hw1 : Hid _ := hw1
  replace r0 : Hid _ := r0
  replace r1 : Hid _ := r1
  go_enter Try.func34, Try.ntmps34
  go_wp2_with fail
  rw [hw1.out]
  refine (hH _ k1).mono ?_
  rintro e w2 ⟨fa', cf', ba', cb', ta', ct', rfl, rS, hcf, rI, hcb, rT, hct, k2, oF, oB, K0, hK0, oT⟩
  have q0 := (k2.block _ hz0).trans r0.out
  have q1 := (k2.block _ hz1).trans r1.out
  have kb : Keep w2 (w2.alloc (Obj.cells #[Value.string nm, Value.slice fa' fs.length cf', Value.int IntKind.i64 N, Value.slice ba' base.length cb', Value.slice ta' ts.length ct'] 52)) := (Keep.refl w2).alloc _
  have tb : (w2.alloc (Obj.cells #[Value.string nm, Value.slice fa' fs.length cf', Value.int IntKind.i64 N, Value.slice ba' base.length cb', Value.slice ta' ts.length ct'] 52)).heap[w2.heap.size]? = some (Obj.cells #[Value.string nm, Value.slice fa' fs.length cf', Value.int IntKind.i64 N, Value.slice ba' base.length cb', Value.slice ta' ts.length ct'] 52 (0, 0)) := heap_alloc_new w2 _
  have hz2 : w.heap.size + 1 < w2.heap.size := (Array.getElem?_eq_some_iff.1 q1).1
  have p0 := (kb.block _ (by omega)).trans q0
  have x4 := cell_of_row _ _ 4 _ 52 (0, 0) p0
  simp only [List.getElem?_toArray, List.getElem?_cons_zero, List.getElem?_cons_succ] at x4
  have k02 := k1.trans k2
  clear hH
  replace q0 : Hid _ := q0
  replace q1 : Hid _ := q1
  replace tb : Hid _ := tb
  replace p0 : Hid _ := p0
  go_wp2_with fail
  obtain ⟨W, hW⟩ : ∃ W, w2.alloc (Obj.cells #[Value.string nm, Value.slice fa' fs.length cf', Value.int IntKind.i64 N, Value.slice ba' base.length cb', Value.slice ta' ts.length ct'] 52) = W := ⟨_, rfl⟩
  have sW : W.heap.size = w2.heap.size + 1 := by rw [← hW]; simp
  rw [hW] at kb tb ⊢
  clear hW p0 x4
  have h12 := k2.le
  go_loopw [14] (fun iv wr => ∃ (k : Nat) (K : List (Int × Option Addr × Nat × Nat)), k ≤ ts.length ∧ iv = .int .i64 k ∧ MJt (mdT ts) w1 W (.slice ta' ts.length ct') k wr K ∧ Hid (mdE ts = mdE (ts.drop k))) (fun iv _ => ts.length - (intOf iv).toNat)
  case atStart => exact ⟨0, K0, by omega, rfl, ⟨by rw [hml]; exact hK0, fun j hj => by omega, oT.keep kb, fun j hj => by omega, k2.trans kb, Nat.le_refl _, fun b _ _ => rfl⟩, rfl⟩
  case round =>
    obtain ⟨k, K, hk, rfl, hI, hme⟩ := hrel
    have kwr : Keep w wr := k1.trans hI.kp
    have hneB : (Value.slice ta' ts.length ct').ownBlock ≠ some w2.heap.size := fun e => by
      obtain ⟨h1, c, h2⟩ := oT.block e
      have := (Array.getElem?_eq_some_iff.1 h2).1
      omega
    have bxr : wr.heap[w2.heap.size]? = _ := (hI.low _ (by omega) hneB).trans tb.out
    have hzB : w2.heap.size < wr.heap.size := (Array.getElem?_eq_some_iff.1 bxr).1
    have hne1 : w1.heap.size ≤ wr.heap.size := hI.kp.le
    have m1 : wr.heap[w.heap.size + 1]? = some (.cells #[Value.string { data := #[] }, Value.slice none 0 0, Value.int IntKind.i64 0, Value.slice none 0 0, Value.slice none 0 0] 52 (0, 0)) := (hI.kp.block _ hz1).trans r1.out
    by_cases hkl : k < ts.length
    · have hkc : (k : Int) < (ts.length : Int) := by omega
      obtain ⟨b, o, na, nc, rfl, d0, d1, dn, dc, dl, df⟩ := (ht.keep kwr) k hkl
      have hln := hts k hkl
      obtain ⟨T, hT⟩ : ∃ T, ts.getD k (0, []) = T := ⟨_, rfl⟩
      have HT : Hid (ts.getD k (0, []) = T) := hT
      rw [hT] at d0 d1 dn dc dl df hln
      clear hT
      obtain ⟨out, L⟩ := T
      simp only at d0 d1 dn dc dl df hln
      have kx : Keep wr (wr.alloc (Obj.cells #[Value.int IntKind.i64 out, Value.slice na L.length nc] 24)) := (Keep.refl wr).alloc _
      have hCn := rCanon_any na nc out L hln dc (wr.alloc (Obj.cells #[Value.int IntKind.i64 out, Value.slice na L.length nc] 24)) (dn.keep kx)
      have HU := mdT_at hkl HT.out
      obtain ⟨O, hO'⟩ : ∃ O, cnoO L out = O := ⟨_, rfl⟩
      obtain ⟨M, hM⟩ : ∃ M, cnoN L = M := ⟨_, rfl⟩
      rw [hO', hM] at hCn HU
      replace HU : Hid _ := HU
      by_cases hE : shE L = 0
      · rw [hE] at hCn
        have HE : Hid (mdE ts = mdE (ts.drop (k + 1))) := hme.out.trans (mdE_ok hkl HT.out hE)
        obtain ⟨_, _, eo, hoc, hor⟩ := hI.own.shape
        have hKn : K.length = ts.length := by rw [hI.len, hml]
        obtain ⟨g, eg, -⟩ := hor 0 (by omega)
        simp only [Value.slice.injEq] at eo
        obtain ⟨eo1, -, -⟩ := eo
        rw [eg] at eo1
        subst eo1
        obtain ⟨hg1, cg, hg2⟩ := oT.block (b := g) rfl
        have hgl : g < w2.heap.size := (Array.getElem?_eq_some_iff.1 hg2).1
        clear hE hme eg
        go_wp2_with fail
        refine hCn.mono ?_
        rintro e w6 ⟨an, cn, rfl, hcn, hC6, k6⟩
        have kq : Keep wr (w6.alloc (Obj.cells #[Value.int IntKind.i64 O, Value.slice an M.length cn] 24)) := (kx.trans k6).alloc _
        have c4 := cell_of_row _ _ 4 _ 52 (0, 0) ((kq.block _ hzB).trans bxr)
        simp only [List.getElem?_toArray, List.getElem?_cons_zero, List.getElem?_cons_succ] at c4
        obtain ⟨-, cur, hcur, hcs⟩ := (hI.own.keep kq).set (k := k) (by omega) O an M.length cn
        obtain ⟨u0, y0⟩ : ∃ u, (w6.alloc (Obj.cells #[Value.int IntKind.i64 O, Value.slice an M.length cn] 24)).cell? ⟨g, k * 2, none⟩ = some u := by rw [cell_of_row _ _ (k * 2) _ 24 (0, 0) hcur]; exact ⟨_, Array.getElem?_eq_getElem (by omega)⟩
        obtain ⟨u1, y1⟩ : ∃ u, (w6.alloc (Obj.cells #[Value.int IntKind.i64 O, Value.slice an M.length cn] 24)).cell? ⟨g, k * 2 + 1, none⟩ = some u := by rw [cell_of_row _ _ (k * 2 + 1) _ 24 (0, 0) hcur]; exact ⟨_, Array.getElem?_eq_getElem (by omega)⟩
        have f0 := frozen_of_row _ _ (k * 2) _ 24 hcur
        have f1 := frozen_of_row _ _ (k * 2 + 1) _ 24 hcur
        have a1 := heap_setCell_same _ g (k * 2) _ 24 (.int .i64 O) hcur
        obtain ⟨u2, y2⟩ : ∃ u, ((w6.alloc (Obj.cells #[Value.int IntKind.i64 O, Value.slice an M.length cn] 24)).setCell ⟨g, k * 2, none⟩ (.int .i64 O)).cell? ⟨g, k * 2 + 1, none⟩ = some u := by rw [cell_of_row _ _ (k * 2 + 1) _ 24 (0, 0) a1]; exact ⟨_, Array.getElem?_eq_getElem (by simp; omega)⟩
        have f2 := frozen_of_row _ _ (k * 2 + 1) _ 24 a1
        have hJ := hI.step (by rw [hml]; exact hkl) (by omega) hg1 HU.out kq (hC6.same (fun b hb => Below.heap_alloc _ _ _ hb.2) (fun b hb => ⟨by have h1 := hb.1; have h2 := kx.le; omega, by rw [World.size_alloc]; have := hb.2; omega⟩)) hcn
        replace hcur : Hid _ := hcur
        replace a1 : Hid _ := a1
        go_wp2_with fail
        exact ⟨⟨k + 1, _, by omega, by go_num, hJ, HE⟩, by simp [intOf]; omega⟩
      · have HE : Hid (mdE ts = shE L) := hme.out.trans (mdE_bad hkl HT.out hE)
        have hne : mdE ts ≠ 0 := by rw [HE.out]; exact hE
        have hB : (shE L == 0) = false := by simpa using hE
        have hB2 : (shE L != 0) = true := by simpa using hE
        clear hE hme
        generalize shE L = E at *
        go_wp2_with fail
        refine hCn.mono ?_
        rintro e w6 ⟨an, cn, rfl, hcn, hC6, k6⟩
        have kq : Keep wr (w6.alloc (Obj.cells #[Value.int IntKind.i64 O, Value.slice an M.length cn] 24)) := (kx.trans k6).alloc _
        have m6 := (kq.block _ (by omega)).trans m1
        have y0 := cell_of_row _ _ 0 _ 52 (0, 0) m6
        have y1 := cell_of_row _ _ 1 _ 52 (0, 0) m6
        have y2 := cell_of_row _ _ 2 _ 52 (0, 0) m6
        have y3 := cell_of_row _ _ 3 _ 52 (0, 0) m6
        have y4 := cell_of_row _ _ 4 _ 52 (0, 0) m6
        have f0 := frozen_of_row _ _ 0 _ 52 m6
        have f1 := frozen_of_row _ _ 1 _ 52 m6
        have f2 := frozen_of_row _ _ 2 _ 52 m6
        have f3 := frozen_of_row _ _ 3 _ 52 m6
        have f4 := frozen_of_row _ _ 4 _ 52 m6
        simp only [List.getElem?_toArray, List.getElem?_cons_zero, List.getElem?_cons_succ] at y0 y1 y2 y3 y4
        replace m6 : Hid _ := m6
        replace m1 : Hid _ := m1
        go_wp2_with fail
        obtain ⟨F2, F1⟩ := store5 (w6.alloc (Obj.cells #[Value.int IntKind.i64 O, Value.slice an M.length cn] 24)) (w.heap.size + 1) 52 _ _ _ _ _ (.string ⟨#[]⟩) (.slice none 0 0) (.int .i64 0) (.slice none 0 0) (.slice none 0 0) m6.out
        try simp only [Exit.inBlock, Exit.then]
        refine bodyPost_ret (results_cell_tmp rfl _ _ (w.heap.size + 1) 52 _ (0, 0) _ rfl F2 Try.underlying52 rfl (by kernel_rfl)) rfl ?_
        refine ⟨.inr ⟨hne, by rw [HE.out]; rfl⟩, ?_⟩
        exact (((((kwr.trans kq).setCell (p := ⟨w.heap.size + 1, 0, none⟩) (by show w.heap.size ≤ w.heap.size + 1; omega) _).setCell (p := ⟨w.heap.size + 1, 1, none⟩) (by show w.heap.size ≤ w.heap.size + 1; omega) _).setCell (p := ⟨w.heap.size + 1, 2, none⟩) (by show w.heap.size ≤ w.heap.size + 1; omega) _).setCell (p := ⟨w.heap.size + 1, 3, none⟩) (by show w.heap.size ≤ w.heap.size + 1; omega) _).setCell (p := ⟨w.heap.size + 1, 4, none⟩) (by show w.heap.size ≤ w.heap.size + 1; omega) _
    · have hkc : ¬ (k : Int) < (ts.length : Int) := by omega
      obtain rfl : k = ts.length := by omega
      have hI' : MJt (mdT ts) w1 W (.slice ta' (mdT ts).length ct') (mdT ts).length wr K := by rw [hml]; exact hI
      have hm0 : Hid (mdE ts = 0) := by show _ = _; rw [hme.out, List.drop_eq_nil_of_le (Nat.le_refl _)]; rfl
      have g0 := cell_of_row wr _ 0 _ 52 (0, 0) bxr
      have g1 := cell_of_row wr _ 1 _ 52 (0, 0) bxr
      have g2 := cell_of_row wr _ 2 _ 52 (0, 0) bxr
      have g3 := cell_of_row wr _ 3 _ 52 (0, 0) bxr
      have g4 := cell_of_row wr _ 4 _ 52 (0, 0) bxr
      have y0 := cell_of_row wr _ 0 _ 52 (0, 0) m1
      have y1 := cell_of_row wr _ 1 _ 52 (0, 0) m1
      have y2 := cell_of_row wr _ 2 _ 52 (0, 0) m1
      have y3 := cell_of_row wr _ 3 _ 52 (0, 0) m1
      have y4 := cell_of_row wr _ 4 _ 52 (0, 0) m1
      have f0 := frozen_of_row wr _ 0 _ 52 m1
      have f1 := frozen_of_row wr _ 1 _ 52 m1
      have f2 := frozen_of_row wr _ 2 _ 52 m1
      have f3 := frozen_of_row wr _ 3 _ 52 m1
      have f4 := frozen_of_row wr _ 4 _ 52 m1
      simp only [List.getElem?_toArray, List.getElem?_cons_zero, List.getElem?_cons_succ] at g0 g1 g2 g3 g4 y0 y1 y2 y3 y4
      replace m1 : Hid _ := m1
      replace bxr : Hid _ := bxr
      go_wp2_with fail
      obtain ⟨F2, F1⟩ := store5 wr (w.heap.size + 1) 52 _ _ _ _ _ (.string nm) (.slice fa' fs.length cf') (.int .i64 N) (.slice ba' base.length cb') (.slice ta' ts.length ct') m1.out
      try simp only [Exit.inBlock, Exit.then]
      refine bodyPost_ret (results_cell_tmp rfl _ _ (w.heap.size + 1) 52 _ (0, 0) _ rfl F2 Try.underlying52 rfl (by kernel_rfl)) rfl ?_
      have lowb : ∀ b cur ty, w1.heap.size ≤ b → w2.heap[b]? = some (.cells cur ty (0, 0)) → ty ≠ 24 → wr.heap[b]? = w2.heap[b]? := fun b cur ty h1 h2 hty => by
        have hb2 : b < w2.heap.size := (Array.getElem?_eq_some_iff.1 h2).1
        rw [hI.low b (by omega) (fun e => by
          obtain ⟨-, c, h3⟩ := oT.block e
          rw [h2] at h3
          simp only [Option.some.injEq, Obj.cells.injEq] at h3
          exact hty h3.2.1), kb.block b hb2]
      have oF2 := oF.same (w' := (((((wr.setCell ⟨w.heap.size + 1, 0, none⟩ (.string nm)).setCell ⟨w.heap.size + 1, 1, none⟩ (.slice fa' fs.length cf')).setCell ⟨w.heap.size + 1, 2, none⟩ (.int .i64 N)).setCell ⟨w.heap.size + 1, 3, none⟩ (.slice ba' base.length cb')).setCell ⟨w.heap.size + 1, 4, none⟩ (.slice ta' ts.length ct'))) (fun g hg => by
        obtain ⟨h1, c, h2⟩ := oF.block hg
        rw [F1 g (by omega)]
        exact lowb g c 9 h1 h2 (by decide))
      have oB2 := oB.same (w' := (((((wr.setCell ⟨w.heap.size + 1, 0, none⟩ (.string nm)).setCell ⟨w.heap.size + 1, 1, none⟩ (.slice fa' fs.length cf')).setCell ⟨w.heap.size + 1, 2, none⟩ (.int .i64 N)).setCell ⟨w.heap.size + 1, 3, none⟩ (.slice ba' base.length cb')).setCell ⟨w.heap.size + 1, 4, none⟩ (.slice ta' ts.length ct'))) (fun g hg => by
        obtain ⟨h1, c, h2⟩ := oB.block hg
        rw [F1 g (by omega)]
        exact lowb g c 2 h1 h2 (by decide))
      obtain ⟨aF, cF, eF, hF1, hF2⟩ := oF2.shape
      obtain ⟨aB, cB, eB, hB1, hB2⟩ := oB2.shape
      simp only [Value.slice.injEq] at eF eB
      obtain ⟨rfl, -, rfl⟩ := eF
      obtain ⟨rfl, -, rfl⟩ := eB
      have hTT := hI'.rdT (wf := (((((wr.setCell ⟨w.heap.size + 1, 0, none⟩ (.string nm)).setCell ⟨w.heap.size + 1, 1, none⟩ (.slice fa' fs.length cf')).setCell ⟨w.heap.size + 1, 2, none⟩ (.int .i64 N)).setCell ⟨w.heap.size + 1, 3, none⟩ (.slice ba' base.length cb')).setCell ⟨w.heap.size + 1, 4, none⟩ (.slice ta' ts.length ct'))) (fun g hg => F1 g (by omega)) (by omega) (fun j hj => by
        rw [hml] at hj
        obtain ⟨b0, o0, na, nc, -, -, -, hn, -, hl, hf⟩ := ht j hj
        obtain ⟨T, hT⟩ : ∃ T, ts.getD j (0, []) = T := ⟨_, rfl⟩
        have hU := mdT_at hj (out := T.1) (L := T.2) hT
        rw [hU]
        rw [hT] at hn hl hf
        refine ⟨cnoN_fit hl hn, cnoN_len T.2 hl, ?_⟩
        simp only
        unfold cnoO
        split
        · exact hf
        · omega)
      rw [hml] at hTT
      have hk12 := k1.le
      have hoT := hI'.own
      have hoT2 := hoT.same (w' := (((((wr.setCell ⟨w.heap.size + 1, 0, none⟩ (.string nm)).setCell ⟨w.heap.size + 1, 1, none⟩ (.slice fa' fs.length cf')).setCell ⟨w.heap.size + 1, 2, none⟩ (.int .i64 N)).setCell ⟨w.heap.size + 1, 3, none⟩ (.slice ba' base.length cb')).setCell ⟨w.heap.size + 1, 4, none⟩ (.slice ta' ts.length ct'))) (fun b hb => F1 b (by have := (hoT.block hb).1; omega))
      have szF : wr.heap.size ≤ ((((((wr.setCell ⟨w.heap.size + 1, 0, none⟩ (.string nm)).setCell ⟨w.heap.size + 1, 1, none⟩ (.slice fa' fs.length cf')).setCell ⟨w.heap.size + 1, 2, none⟩ (.int .i64 N)).setCell ⟨w.heap.size + 1, 3, none⟩ (.slice ba' base.length cb')).setCell ⟨w.heap.size + 1, 4, none⟩ (.slice ta' ts.length ct'))).heap.size := by simp
      refine ⟨.inl ⟨hm0.out, _, _, _, _, _, _, rfl, EnsIn.of (own_mono oF2 hk12) (oB2.mono hk12) hI'.len (OwnT.mono hoT2 hk12) hI'.eq (fun j hj => (hI'.ct j hj).same (fun b hb => F1 b (by have := hb.1; omega)) (fun b hb => ⟨by have := hb.1; omega, by have := hb.2; omega⟩)) hTT.1.fits⟩, ?_⟩
      exact ((((kwr.setCell (p := ⟨w.heap.size + 1, 0, none⟩) (by show w.heap.size ≤ w.heap.size + 1; omega) _).setCell (p := ⟨w.heap.size + 1, 1, none⟩) (by show w.heap.size ≤ w.heap.size + 1; omega) _).setCell (p := ⟨w.heap.size + 1, 2, none⟩) (by show w.heap.size ≤ w.heap.size + 1; omega) _).setCell (p := ⟨w.heap.size + 1, 3, none⟩) (by show w.heap.size ≤ w.heap.size + 1; omega) _).setCell (p := ⟨w.heap.size + 1, 4, none⟩) (by show w.heap.size ≤ w.heap.size + 1; omega) _
end Go.Proofs.Ytbchinfmdioijaa
