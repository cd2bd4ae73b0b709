import Derived.Test.YtaogjiffnebnkaaP2
set_option linter.unusedVariables false
set_option linter.unusedSimpArgs false
namespace Go.Proofs.Ytaogjiffnebnkaa
open Go.RowKit Go.Shelf
attribute [local go_sem] run_store_float
/-- A list of cuts of one's own, in all its depth. -/
structure OC (L : List Ct) (w : World) (v : Value) (wr : World) (K : List (Ct × Option Addr × Nat)) : Prop where
  eq : K.map (fun r => r.1) = L
  own : OwnC w.heap.size wr v K
  cats : ∀ r ∈ K, OwnZ 3 w.heap.size wr (.slice r.2.1 r.1.cs.length r.2.2) r.1.cs ∧ r.1.cs.length ≤ 17592186044416
  kp : Keep w wr
theorem OC.nil (w : World) : OC [] w (.slice none 0 0) w [] := ⟨rfl, OwnC.nil _ _, by simp, Keep.refl w⟩
theorem OC.len {L : List Ct} {w : World} {v : Value} {wr : World} {K : List (Ct × Option Addr × Nat)} (h : OC L w v wr K) : K.length = L.length := by rw [← h.eq, List.length_map]
theorem OC.keep {L : List Ct} {w : World} {v : Value} {wr w' : World} {K : List (Ct × Option Addr × Nat)} (h : OC L w v wr K) (k : Keep wr w') : OC L w v w' K :=
  ⟨h.eq, h.own.keep k, fun r hr => ⟨(h.cats r hr).1.keep k, (h.cats r hr).2⟩, h.kp.trans k⟩
/-- Rows of cuts and rows of whole numbers lie in different blocks. -/
theorem own_ne {B B' : Nat} {w : World} {v u : Value} {K : List (Ct × Option Addr × Nat)} {l : List Int} (h : OwnC B w v K) (h' : OwnZ 3 B' w u l) {b : Nat} (hb : u.ownBlock = some b) : v.ownBlock ≠ some b := by
  intro e
  obtain ⟨-, c1, h1⟩ := h.block e
  obtain ⟨-, c2, h2⟩ := h'.block hb
  rw [h1] at h2
  simp at h2
theorem OC.step {L : List Ct} {w : World} {v : Value} {wr : World} {K : List (Ct × Option Addr × Nat)} (hI : OC L w v wr K) {N : Ct} {va : Option Addr} {cc : Nat} {W : World} (kW : Keep wr W) (hs : N.cs.length ≤ 17592186044416)
    (hO : OwnZ 3 w.heap.size W (.slice va N.cs.length cc) N.cs) {v' : Value} {w5 : World} (hO5 : OwnC w.heap.size w5 v' (K ++ [(N, va, cc)])) (g5 : W.grownBy w5 v.ownBlock) :
    OC (L ++ [N]) w v' w5 (K ++ [(N, va, cc)]) := by
  have hW := hI.keep kW
  have hsm : ∀ {u : Value} {l : List Int}, OwnZ 3 w.heap.size W u l → OwnZ 3 w.heap.size w5 u l := by
    intro u l hu
    refine hu.same (fun b hb => ?_)
    obtain ⟨-, cur, hc⟩ := hu.block hb
    exact g5.block b (Array.getElem?_eq_some_iff.1 hc).1 (fun e => own_ne hW.own hu hb e.symm)
  refine ⟨by rw [List.map_append, hI.eq]; rfl, hO5, ?_, Below.grown hW.kp g5 hW.kp.le (fun b hb => (hW.own.block hb).1)⟩
  intro r hr
  rcases List.mem_append.1 hr with hr | hr
  · exact ⟨hsm (hW.cats r hr).1, (hW.cats r hr).2⟩
  · obtain rfl := List.mem_singleton.1 hr
    exact ⟨hsm hO, hs⟩
theorem OC.rd {L : List Ct} {w : World} {v : Value} {wr : World} {K : List (Ct × Option Addr × Nat)} (h : OC L w v wr K) : ∃ a c, v = .slice a L.length c ∧ L.length ≤ c ∧ RdC wr a L := by
  obtain ⟨a, c, e, hc, hr⟩ := h.own.shape
  rw [h.len] at e hc
  refine ⟨a, c, e, hc, ?_⟩
  intro j hj
  have hj' : j < K.length := by rw [h.len]; exact hj
  obtain ⟨b, rfl, hu⟩ := hr j hj'
  have ej : L.getD j cd0 = (K.getD j ct0).1 := by
    rw [← h.eq]; simp [List.getD, hj']
  have hm : K.getD j ct0 ∈ K := by
    have : K.getD j ct0 = K[j] := by simp [List.getD, hj']
    rw [this]; exact List.getElem_mem _
  obtain ⟨h1, h2⟩ := h.cats _ hm
  rw [ej]
  generalize K.getD j ct0 = r at *
  obtain ⟨a', c', e', hc', hr'⟩ := h1.shape
  simp only [Value.slice.injEq] at e'
  obtain ⟨rfl, -, rfl⟩ := e'
  refine ⟨b, 0, r.2.1, r.2.2, rfl, ?_⟩
  rw [Nat.zero_add]
  exact ⟨hu 0 _ (by omega) rfl, hu 1 _ (by omega) rfl, hu 2 _ (by omega) rfl, hu 3 _ (by omega) rfl, hu 4 _ (by omega) rfl, hr', hc', h2⟩
/-- Five stores into a row of five. -/
theorem store5 (w : World) (g ty : Nat) (x0 x1 x2 x3 x4 v0 v1 v2 v3 v4 : Value) (h : w.heap[g]? = some (.cells #[x0, x1, x2, x3, x4] ty (0, 0))) :
    (((((w.setCell ⟨g, 0, none⟩ v0).setCell ⟨g, 1, none⟩ v1).setCell ⟨g, 2, none⟩ v2).setCell ⟨g, 3, none⟩ v3).setCell ⟨g, 4, none⟩ v4).heap[g]? = some (.cells #[v0, v1, v2, v3, v4] ty (0, 0)) ∧
    ∀ b, b ≠ g → (((((w.setCell ⟨g, 0, none⟩ v0).setCell ⟨g, 1, none⟩ v1).setCell ⟨g, 2, none⟩ v2).setCell ⟨g, 3, none⟩ v3).setCell ⟨g, 4, none⟩ v4).heap[b]? = w.heap[b]? := by
  have a0 := heap_setCell_same w g 0 _ ty v0 h
  have a1 := heap_setCell_same _ g 1 _ ty v1 a0
  have a2 := heap_setCell_same _ g 2 _ ty v2 a1
  have a3 := heap_setCell_same _ g 3 _ ty v3 a2
  have a4 := heap_setCell_same _ g 4 _ ty v4 a3
  refine ⟨by simpa using a4, fun b hb => ?_⟩
  rw [neq_set _ _ _ _ b hb, neq_set _ _ _ _ b hb, neq_set _ _ _ _ b hb, neq_set _ _ _ _ b hb, neq_set _ _ _ _ b hb]
set_option maxRecDepth 100000 in
set_option maxHeartbeats 2000000 in
theorem copyOf_any (n : Ct) (ca : Option Addr) (cp : Nat) (w : World) (hr : RdI w ca n.cs) (hl : n.cs.length ≤ 17592186044416) (hc : n.cs.length ≤ cp) :
    Calls Try.prog 43 #[n.v ca cp] w fun e w' => ∃ va cc, e = .returned (n.v va cc) ∧ OwnZ 3 w.heap.size w' (.slice va n.cs.length cc) n.cs ∧ n.cs.length ≤ cc ∧ Keep w w' := by
  obtain ⟨w1, hw1, k1, s1, r0, r1⟩ := boxes2n w #[Value.float FloatKind.f64 n.th, Value.slice ca n.cs.length cp, Value.int IntKind.i64 n.tr, Value.int IntKind.i64 n.fr, Value.int IntKind.i64 n.to] #[Value.float FloatKind.f64 0, Value.slice none 0 0, Value.int IntKind.i64 0, Value.int IntKind.i64 0, Value.int IntKind.i64 0] 57 57
  have hrd := hr.keep k1
  have c1 := cell_of_row w1 _ 1 _ 57 (0, 0) r0
  have hz0 : w.heap.size < w1.heap.size := (Array.getElem?_eq_some_iff.1 r0).1
  have hz1 : w.heap.size + 1 < w1.heap.size := (Array.getElem?_eq_some_iff.1 r1).1
  simp at c1
  rw [← hw1] at c1
  replace hw1 : Hid _ := hw1
  replace r0 : Hid _ := r0
  replace r1 : Hid _ := r1
  unfold Ct.v
  go_enter Try.func43, Try.ntmps43
  go_wp2_with (at_builtin; rw [hw1.out] at c1 ⊢; refine wpList_copyAny rfl _ _ rfl n.cs ca cp ?_ ?_ hrd hl ?_; rotate_left 2; intro v w2 hO k2; obtain ⟨va, cc, rfl, hcc, hrc⟩ := hO.shape; have q0 := (k2.block _ hz0).trans r0.out; have q1 := (k2.block _ hz1).trans r1.out; have e1 := cell_of_row w2 _ 1 _ 57 (0, 0) q0; have f1 := frozen_of_row w2 _ 1 _ 57 q0; have p0 := heap_setCell_same w2 w.heap.size 1 _ 57 (.slice va n.cs.length cc) q0; have p1 := (neq_set w2 w.heap.size 1 (.slice va n.cs.length cc) (w.heap.size + 1) (by omega)).trans q1; simp at p0 e1; have a0 := cell_of_row _ _ 0 _ 57 (0, 0) p0; have a1 := cell_of_row _ _ 1 _ 57 (0, 0) p0; have a2 := cell_of_row _ _ 2 _ 57 (0, 0) p0; have a3 := cell_of_row _ _ 3 _ 57 (0, 0) p0; have a4 := cell_of_row _ _ 4 _ 57 (0, 0) p0; have b0 := cell_of_row _ _ 0 _ 57 (0, 0) p1; have b1 := cell_of_row _ _ 1 _ 57 (0, 0) p1; have b2 := cell_of_row _ _ 2 _ 57 (0, 0) p1; have b3 := cell_of_row _ _ 3 _ 57 (0, 0) p1; have b4 := cell_of_row _ _ 4 _ 57 (0, 0) p1; have d0 := frozen_of_row _ _ 0 _ 57 p1; have d1 := frozen_of_row _ _ 1 _ 57 p1; have d2 := frozen_of_row _ _ 2 _ 57 p1; have d3 := frozen_of_row _ _ 3 _ 57 p1; have d4 := frozen_of_row _ _ 4 _ 57 p1; simp at a0 b0 a1 b1 a2 b2 a3 b3 a4 b4; clear hrc; replace p1 : Hid _ := p1; replace p0 : Hid _ := p0; replace q0 : Hid _ := q0; replace q1 : Hid _ := q1)
  rotate_left 1
  · rfl
  · rfl
  obtain ⟨F2, F1⟩ := store5 _ _ 57 _ _ _ _ _ (Value.float FloatKind.f64 n.th) (Value.slice va n.cs.length cc) (Value.int IntKind.i64 n.tr) (Value.int IntKind.i64 n.fr) (Value.int IntKind.i64 n.to) p1.out
  try simp only [Exit.inBlock, Exit.then]
  refine bodyPost_ret (results_cell_row rfl _ _ (w.heap.size + 1) 57 _ (0, 0) _ rfl F2 Try.underlying57 rfl (by kernel_rfl)) rfl ?_
  refine ⟨va, cc, rfl, ?_, hcc, ?_⟩
  · refine (hO.mono (by omega)).same ?_
    intro b hb
    have := (hO.block hb).1
    rw [F1 b (by omega), neq_set w2 w.heap.size 1 _ b (by omega)]
  · have kk : Keep w (w2.setCell ⟨w.heap.size, 1, none⟩ (.slice va n.cs.length cc)) := (k1.trans k2).setCell (p := ⟨w.heap.size, 1, none⟩) (Nat.le_refl _) _
    exact ((((kk.setCell (p := ⟨w.heap.size + 1, 0, none⟩) (by show w.heap.size ≤ w.heap.size + 1; omega) _).setCell (p := ⟨w.heap.size + 1, 1, none⟩) (by show w.heap.size ≤ w.heap.size + 1; omega) _).setCell (p := ⟨w.heap.size + 1, 2, none⟩) (by show w.heap.size ≤ w.heap.size + 1; omega) _).setCell (p := ⟨w.heap.size + 1, 3, none⟩) (by show w.heap.size ≤ w.heap.size + 1; omega) _).setCell (p := ⟨w.heap.size + 1, 4, none⟩) (by show w.heap.size ≤ w.heap.size + 1; omega) _
end Go.Proofs.Ytaogjiffnebnkaa
