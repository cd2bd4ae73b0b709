import Derived.Test.YtbchinfmdioijaaS6
import Derived.Laws.AppendOwn
import Derived.Deep.DeepAppendWide
import Derived.Deep.RegionLaw
set_option linter.unusedVariables false
set_option linter.unusedSimpArgs false
namespace Go.Proofs.Ytbchinfmdioijaa
open Go.RowKit Go.Shelf
/-- A row from its block's head on, whatever it holds. -/
def WR (w : World) (E z : Nat) (g n cap : Nat) (cur : Array Value) : Prop := w.heap[g]? = some (.cells cur E (0, 0)) ∧ n ≤ cap ∧ cap ≤ maxLen ∧ cur.size = cap * z
/-- append to such a row, told in full. -/
theorem appW_run {S E z by' : Nat} {zv : Value} (hS : Try.prog.underlying S = some (.slice E)) (iE : (Try.prog.info? E).map (fun i => (i.zero, i.size, i.bytes)) = some (some zv, z, by')) (hzc : zv.cells.size = z) (w : World) (ty g n cap : Nat) (cur : Array Value) (hr : WR w E z g n cap cur) (ad : Addr) (m c : Nat) (ys : List Value) (hl : ys.length = m * z) (hnews : ∀ j u, ys[j]? = some u → w.cell? (ad.add j) = some u) (h1 : ∀ u ∈ ys, u.oneCell' = true) (h63 : n + m ≤ maxLen) (hb : ((n + m) + (n + m) / 4 + 192) * by' ≤ 281474976710656) :
    ∃ g' cap' cur' w', (Builtin.append_ #[S, S] ty #[.slice (some ⟨g, 0, none⟩) n cap, .slice (some ad) m c]).run Try.prog w = .ok (.slice (some ⟨g', 0, none⟩) (n + m) cap') w' ∧ WR w' E z g' (n + m) cap' cur' ∧ w'.os = w.os ∧ w'.tape = w.tape ∧ w'.output = w.output ∧ w.heap.size ≤ w'.heap.size ∧ (∀ b, b < w.heap.size → b ≠ g' → w'.heap[b]? = w.heap[b]?) ∧
      (∀ i, i < n * z → cur'[i]? = cur[i]?) ∧ (∀ i, i < m * z → cur'[n * z + i]? = ys[i]?) ∧ ((g' = g ∧ cap' = cap ∧ ∀ i, (n + m) * z ≤ i → cur'[i]? = cur[i]?) ∨ g' = w.heap.size) := by
  obtain ⟨i0, hi, hz0, hz1, hz2⟩ := info_parts iE
  obtain ⟨hg, hnc, hcm, hcs⟩ := hr
  subst hz1
  subst hz2
  have hsmall : n + m ≤ 9223372036854775807 := by simp only [maxLen] at h63; omega
  have hnz : n * i0.size ≤ cur.size := by rw [hcs]; exact Nat.mul_le_mul_right _ hnc
  have htl : (cur.toList.take (n * i0.size)).length = n * i0.size := by rw [List.length_take, Array.length_toList]; omega
  by_cases hroom : n + m ≤ cap
  · have hfit : n * i0.size + ys.length ≤ cur.size := by rw [hl, hcs, ← Nat.add_mul]; exact Nat.mul_le_mul_right _ hroom
    have hrun := run_append_room (P := Try.prog) w S ty E i0 hS hi g n cap cur hg ad m c ys hl hnews h1 hroom hfit
    refine ⟨g, cap, _, _, hrun, ⟨setRow_heap w g cur _ E _ hg, hroom, hcm, ?_⟩, rfl, rfl, rfl, by simp, fun b _ hb => setRow_other w g b _ hb, ?_, ?_, .inl ⟨rfl, rfl, ?_⟩⟩
    · simp only [List.size_toArray, List.length_append, List.length_take, List.length_drop, Array.length_toList]
      omega
    · intro i hi'
      simp only [List.getElem?_toArray]
      rw [List.append_assoc, List.getElem?_append_left (by rw [htl]; exact hi'), List.getElem?_take, if_pos hi', Array.getElem?_toList]
    · intro i hi'
      simp only [List.getElem?_toArray]
      rw [List.append_assoc, List.getElem?_append_right (by rw [htl]; omega), htl, Nat.add_sub_cancel_left, List.getElem?_append_left (by rw [hl]; exact hi')]
    · intro i hi'
      rw [Nat.add_mul] at hi'
      simp only [List.getElem?_toArray]
      rw [List.append_assoc, List.getElem?_append_right (by rw [htl]; omega), htl, List.getElem?_append_right (by rw [hl]; omega), List.getElem?_drop, hl, Array.getElem?_toList, Nat.sub_sub, Nat.add_sub_cancel' hi']
  · have holds : ∀ j u, (cur.toList.take (n * i0.size))[j]? = some u → w.cell? ((⟨g, 0, none⟩ : Addr).add j) = some u := by
      intro j u hj
      have hjl : j < n * i0.size := by have := (List.getElem?_eq_some_iff.1 hj).1; rw [htl] at this; exact this
      rw [Addr.add_lit, Nat.zero_add, cell_of_row w g j cur E (0, 0) hg, ← hj, List.getElem?_take, if_pos hjl, Array.getElem?_toList]
    have hrun := run_append_grow (P := Try.prog) w S ty E i0 _ hS hi hz0 ⟨g, 0, none⟩ n cap (cur.toList.take (n * i0.size)) htl holds ad m c ys hl hnews (by omega) (by omega) (growslice_fits_wide (by omega) hb)
    have hge := grownCap_ge w (n + m) cap E
    refine ⟨w.heap.size, _, _, _, hrun, ⟨heap_alloc_new w.drew _, hge, grownCap_le_maxLen w (n + m) cap E h63, ?_⟩, rfl, rfl, rfl, by simp, fun b hb _ => Below.heap_alloc w.drew _ _ hb, ?_, ?_, .inr rfl⟩
    · simp only [Array.size_append, List.size_toArray, size_zeroCells, hzc, htl, hl, ← Nat.add_mul]
      rw [Nat.add_sub_cancel' hge]
    · intro i hi'
      rw [Array.append_assoc, Array.getElem?_append_left (by simp only [List.size_toArray, htl]; exact hi'), List.getElem?_toArray, List.getElem?_take, if_pos hi', Array.getElem?_toList]
    · intro i hi'
      rw [Array.append_assoc, Array.getElem?_append_right (by simp only [List.size_toArray, htl]; omega)]
      simp only [List.size_toArray, htl]
      rw [Nat.add_sub_cancel_left, Array.getElem?_append_left (by simp only [List.size_toArray, hl]; exact hi'), List.getElem?_toArray]
end Go.Proofs.Ytbchinfmdioijaa
set_option linter.unusedVariables false
set_option linter.unusedSimpArgs false
namespace Go.Proofs.Ytbchinfmdioijaa
open Go.RowKit Go.Shelf
/-- A row in blocks of A, whatever it holds; or none. -/
def WS (A : Nat → Prop) (w : World) (E z M : Nat) (v : Value) (n : Nat) (cur : Array Value) : Prop := (v = .slice none 0 0 ∧ n = 0) ∨ ∃ g cap, v = .slice (some ⟨g, 0, none⟩) n cap ∧ A g ∧ WR w E z g n cap cur ∧ n ≤ M
theorem WS.le {A : Nat → Prop} {w : World} {E z M : Nat} {v : Value} {n : Nat} {cur : Array Value} (h : WS A w E z M v n cur) : n ≤ M := by
  rcases h with ⟨-, h⟩ | ⟨g, cap, -, -, -, h⟩ <;> omega
theorem WS.blk {A : Nat → Prop} {w : World} {E z M : Nat} {v : Value} {n : Nat} {cur : Array Value} (h : WS A w E z M v n cur) {b : Nat} (hb : v.ownBlock = some b) : A b ∧ w.heap[b]? = some (.cells cur E (0, 0)) := by
  rcases h with ⟨h, -⟩ | ⟨g, cap, rfl, hA, hr, -⟩
  · rw [h] at hb; cases hb
  · have hb : some g = some b := hb
    simp only [Option.some.injEq] at hb
    subst hb
    exact ⟨hA, hr.1⟩
theorem WS.same {A : Nat → Prop} {w w' : World} {E z M : Nat} {v : Value} {n : Nat} {cur : Array Value} (h : WS A w E z M v n cur) (k : ∀ b, v.ownBlock = some b → w'.heap[b]? = w.heap[b]?) : WS A w' E z M v n cur := by
  rcases h with h | ⟨g, cap, hv, hA, hr, hM⟩
  · exact .inl h
  · exact .inr ⟨g, cap, hv, hA, ⟨by rw [k g (by rw [hv]; rfl)]; exact hr.1, hr.2⟩, hM⟩
/-- Only one block has turned, beside new ones. -/
structure One (g0 : Nat) (w w' : World) : Prop where
  os : w'.os = w.os
  tape : w'.tape = w.tape
  output : w'.output = w.output
  size : w.heap.size ≤ w'.heap.size
  oth : ∀ b, b < w.heap.size → b ≠ g0 → w'.heap[b]? = w.heap[b]?
theorem One.refl (g0 : Nat) (w : World) : One g0 w w := ⟨rfl, rfl, rfl, Nat.le_refl _, fun _ _ _ => rfl⟩
theorem One.trans {g0 : Nat} {a b c : World} (h : One g0 a b) (k : One g0 b c) : One g0 a c := ⟨k.os.trans h.os, k.tape.trans h.tape, k.output.trans h.output, Nat.le_trans h.size k.size, fun b hb hn => (k.oth b (Nat.lt_of_lt_of_le hb h.size) hn).trans (h.oth b hb hn)⟩
theorem One.of_keep {g0 : Nat} {a b : World} (h : Keep a b) : One g0 a b := ⟨h.os, h.tape, h.output, h.size, fun b hb _ => h.block b hb⟩
theorem One.set (g0 j : Nat) (w : World) (u : Value) : One g0 w (w.setCell ⟨g0, j, none⟩ u) := ⟨rfl, rfl, rfl, by simp, fun b _ hb => neq_set w g0 j u b hb⟩
theorem WS.other {A : Nat → Prop} {w w' : World} {E E0 z M g0 : Nat} {v : Value} {n : Nat} {cur c0 : Array Value} (h : WS A w E z M v n cur) (k : One g0 w w') (hg : w.heap[g0]? = some (.cells c0 E0 (0, 0))) (hE : E ≠ E0) : WS A w' E z M v n cur :=
  h.same fun b hb => by
    obtain ⟨-, h1⟩ := h.blk hb
    refine k.oth b (Array.getElem?_eq_some_iff.1 h1).1 (fun e => ?_)
    rw [e, hg] at h1
    simp at h1
    exact hE h1.2.symm
theorem WS.set {A : Nat → Prop} {w : World} {E z M : Nat} {g n cap : Nat} {cur : Array Value} (h : WS A w E z M (.slice (some ⟨g, 0, none⟩) n cap) n cur) (i : Nat) (u : Value) : WS A (w.setCell ⟨g, i, none⟩ u) E z M (.slice (some ⟨g, 0, none⟩) n cap) n (cur.setIfInBounds i u) := by
  rcases h with ⟨h, -⟩ | ⟨g', cap', hv, hA, hr, hM⟩
  · simp at h
  · simp only [Value.slice.injEq, Option.some.injEq, Addr.mk.injEq, and_true, true_and] at hv
    obtain ⟨rfl, rfl⟩ := hv
    exact .inr ⟨g, cap, rfl, hA, ⟨heap_setCell_same w g i cur E u hr.1, hr.2.1, hr.2.2.1, by simpa using hr.2.2.2⟩, hM⟩
/-- A list of categories, whatever it holds. -/
def CsW (A : Nat → Prop) (w : World) (M : Nat) (v : Value) : Prop := ∃ n cur, WS A w 3 1 M v n cur
theorem CsW.other {A : Nat → Prop} {w w' : World} {E0 M g0 : Nat} {v : Value} {c0 : Array Value} (h : CsW A w M v) (k : One g0 w w') (hg : w.heap[g0]? = some (.cells c0 E0 (0, 0))) (hE : 3 ≠ E0) : CsW A w' M v := by
  obtain ⟨n, cur, h⟩ := h
  exact ⟨n, cur, h.other k hg hE⟩
theorem CsW.turn {A : Nat → Prop} {w w' : World} {M g0 : Nat} {v : Value} {c0 c1 : Array Value} (h : CsW A w M v) (k : One g0 w w') (hg : w.heap[g0]? = some (.cells c0 3 (0, 0))) (hg' : w'.heap[g0]? = some (.cells c1 3 (0, 0))) (hs : c1.size = c0.size) : CsW A w' M v := by
  obtain ⟨n, cur, h⟩ := h
  rcases h with h | ⟨g, cap, hv, hA, hr, hM⟩
  · exact ⟨n, cur, .inl h⟩
  · by_cases e : g = g0
    · subst e
      have : cur = c0 := by have := hr.1; rw [hg] at this; simpa using this.symm
      subst this
      exact ⟨n, c1, .inr ⟨g, cap, hv, hA, ⟨hg', hr.2.1, hr.2.2.1, by rw [hs]; exact hr.2.2.2⟩, hM⟩⟩
    · exact ⟨n, cur, .inr ⟨g, cap, hv, hA, ⟨by rw [k.oth g (Array.getElem?_eq_some_iff.1 hr.1).1 e]; exact hr.1, hr.2⟩, hM⟩⟩
theorem CsW.mono {A : Nat → Prop} {w : World} {M M' : Nat} {v : Value} (h : CsW A w M v) (hM : M ≤ M') : CsW A w M' v := by
  obtain ⟨n, cur, h⟩ := h
  rcases h with h | ⟨g, cap, hv, hA, hr, h1⟩
  · exact ⟨n, cur, .inl h⟩
  · exact ⟨n, cur, .inr ⟨g, cap, hv, hA, hr, by omega⟩⟩
/-- A row of nodes, whatever they hold but for their lists. -/
def NdW (A : Nat → Prop) (w : World) (MN : Nat) (bc : Nat → Nat) (v : Value) (n : Nat) : Prop := ∃ cur, WS A w 40 8 MN v n cur ∧ ∀ k, k < n → ∃ cv, cur[k * 8 + 4]? = some cv ∧ CsW A w (bc k) cv
theorem NdW.other {A : Nat → Prop} {w w' : World} {E0 MN g0 : Nat} {bc : Nat → Nat} {v : Value} {n : Nat} {c0 : Array Value} (h : NdW A w MN bc v n) (k : One g0 w w') (hg : w.heap[g0]? = some (.cells c0 E0 (0, 0))) (h3 : 3 ≠ E0) (h4 : 40 ≠ E0 ∨ v.ownBlock ≠ some g0) : NdW A w' MN bc v n := by
  obtain ⟨cur, h1, h2⟩ := h
  refine ⟨cur, ?_, fun j hj => ?_⟩
  · rcases h4 with h4 | h4
    · exact h1.other k hg h4
    · exact h1.same fun b hb => k.oth b (Array.getElem?_eq_some_iff.1 (h1.blk hb).2).1 (fun e => h4 (by rw [hb, e]))
  · obtain ⟨cv, e, hc⟩ := h2 j hj
    exact ⟨cv, e, hc.other k hg h3⟩
theorem NdW.turn {A : Nat → Prop} {w w' : World} {MN g0 : Nat} {bc : Nat → Nat} {v : Value} {n : Nat} {c0 c1 : Array Value} (h : NdW A w MN bc v n) (k : One g0 w w') (hg : w.heap[g0]? = some (.cells c0 3 (0, 0))) (hg' : w'.heap[g0]? = some (.cells c1 3 (0, 0))) (hs : c1.size = c0.size) : NdW A w' MN bc v n := by
  obtain ⟨cur, h1, h2⟩ := h
  refine ⟨cur, h1.other k hg (by decide), fun j hj => ?_⟩
  obtain ⟨cv, e, hc⟩ := h2 j hj
  exact ⟨cv, e, hc.turn k hg hg' hs⟩
end Go.Proofs.Ytbchinfmdioijaa
set_option linter.unusedVariables false
set_option linter.unusedSimpArgs false
namespace Go.Proofs.Ytbchinfmdioijaa
open Go.RowKit Go.Shelf
theorem WS.keep {A : Nat → Prop} {w w' : World} {E z M : Nat} {v : Value} {n : Nat} {cur : Array Value} (h : WS A w E z M v n cur) (k : Keep w w') : WS A w' E z M v n cur := h.same fun b hb => k.block b (Array.getElem?_eq_some_iff.1 (h.blk hb).2).1
theorem CsW.keep {A : Nat → Prop} {w w' : World} {M : Nat} {v : Value} (h : CsW A w M v) (k : Keep w w') : CsW A w' M v := by
  obtain ⟨n, cur, h⟩ := h
  exact ⟨n, cur, h.keep k⟩
theorem NdW.keep {A : Nat → Prop} {w w' : World} {MN : Nat} {bc : Nat → Nat} {v : Value} {n : Nat} (h : NdW A w MN bc v n) (k : Keep w w') : NdW A w' MN bc v n := by
  obtain ⟨cur, h1, h2⟩ := h
  refine ⟨cur, h1.keep k, fun j hj => ?_⟩
  obtain ⟨cv, e, hc⟩ := h2 j hj
  exact ⟨cv, e, hc.keep k⟩
/-- An ensemble that is spoilt. -/
structure SpI (A : Nat → Prop) (w : World) (gb : Nat) (nm N : Value) (MF MB MT : Nat) (wr : World) (fv bv tv : Value) (T : Nat) (nv : Nat → Value) (nn MN : Nat → Nat) (bc : Nat → Nat → Nat) : Prop where
  os : wr.os = w.os
  tape : wr.tape = w.tape
  output : wr.output = w.output
  size : w.heap.size ≤ wr.heap.size
  kp : ∀ b, b < w.heap.size → ¬ A b → wr.heap[b]? = w.heap[b]?
  nw : ∀ b, w.heap.size ≤ b → A b
  bx : wr.heap[gb]? = some (.cells #[nm, fv, N, bv, tv] 52 (0, 0))
  f : ∃ n cur, WS A wr 9 1 MF fv n cur
  b : ∃ n cur, WS A wr 2 1 MB bv n cur
  t : ∃ cur, WS A wr 24 2 MT tv T cur ∧ ∀ i, i < T → cur[i * 2 + 1]? = some (nv i)
  n : ∀ i, i < T → NdW A wr (MN i) (bc i) (nv i) (nn i)
  ap : ∀ i j, i < T → j < T → i ≠ j → ∀ b, (nv i).ownBlock = some b → (nv j).ownBlock ≠ some b
section
variable {A : Nat → Prop} {w wr w' : World} {gb : Nat} {nm N : Value} {MF MB MT : Nat} {fv bv tv : Value} {T : Nat} {nv : Nat → Value} {nn MN : Nat → Nat} {bc : Nat → Nat → Nat}
theorem SpI.keep (h : SpI A w gb nm N MF MB MT wr fv bv tv T nv nn MN bc) (k : Keep wr w') : SpI A w gb nm N MF MB MT w' fv bv tv T nv nn MN bc := by
  obtain ⟨n1, c1, h1⟩ := h.f
  obtain ⟨n2, c2, h2⟩ := h.b
  obtain ⟨c3, h3, h4⟩ := h.t
  exact ⟨k.os.trans h.os, k.tape.trans h.tape, k.output.trans h.output, Nat.le_trans h.size k.size, fun b hb hA => (k.block b (Nat.lt_of_lt_of_le hb h.size)).trans (h.kp b hb hA), h.nw, (k.block _ (Array.getElem?_eq_some_iff.1 h.bx).1).trans h.bx, ⟨n1, c1, h1.keep k⟩, ⟨n2, c2, h2.keep k⟩, ⟨c3, h3.keep k, h4⟩, fun i hi => (h.n i hi).keep k, h.ap⟩
/-- One block of another kind has turned. -/
theorem SpI.frame {g0 E0 : Nat} {c0 : Array Value} (h : SpI A w gb nm N MF MB MT wr fv bv tv T nv nn MN bc) (k : One g0 wr w') (hA : A g0) (hg : wr.heap[g0]? = some (.cells c0 E0 (0, 0))) (h52 : 52 ≠ E0) :
    w'.os = w.os ∧ w'.tape = w.tape ∧ w'.output = w.output ∧ w.heap.size ≤ w'.heap.size ∧ (∀ b, b < w.heap.size → ¬ A b → w'.heap[b]? = w.heap[b]?) ∧ w'.heap[gb]? = some (.cells #[nm, fv, N, bv, tv] 52 (0, 0)) := by
  refine ⟨k.os.trans h.os, k.tape.trans h.tape, k.output.trans h.output, Nat.le_trans h.size k.size, fun b hb hn => (k.oth b (Nat.lt_of_lt_of_le hb h.size) (fun e => hn (by rw [e]; exact hA))).trans (h.kp b hb hn), ?_⟩
  rw [k.oth gb (Array.getElem?_eq_some_iff.1 h.bx).1 (fun e => ?_)]
  · exact h.bx
  · have := h.bx
    rw [e, hg] at this
    simp at this
    exact h52 this.2.symm
theorem SpI.turn3 {g0 : Nat} {c0 c1 : Array Value} (h : SpI A w gb nm N MF MB MT wr fv bv tv T nv nn MN bc) (k : One g0 wr w') (hA : A g0) (hg : wr.heap[g0]? = some (.cells c0 3 (0, 0))) (hg' : w'.heap[g0]? = some (.cells c1 3 (0, 0))) (hs : c1.size = c0.size) : SpI A w gb nm N MF MB MT w' fv bv tv T nv nn MN bc := by
  obtain ⟨f1, f2, f3, f4, f5, f6⟩ := h.frame k hA hg (by decide)
  obtain ⟨n1, d1, h1⟩ := h.f
  obtain ⟨n2, d2, h2⟩ := h.b
  obtain ⟨d3, h3, h4⟩ := h.t
  exact ⟨f1, f2, f3, f4, f5, h.nw, f6, ⟨n1, d1, h1.other k hg (by decide)⟩, ⟨n2, d2, h2.other k hg (by decide)⟩, ⟨d3, h3.other k hg (by decide), h4⟩, fun i hi => (h.n i hi).turn k hg hg' hs, h.ap⟩
theorem SpI.putF {g n cap : Nat} {cur : Array Value} (h : SpI A w gb nm N MF MB MT wr (.slice (some ⟨g, 0, none⟩) n cap) bv tv T nv nn MN bc) (hf : WS A wr 9 1 MF (.slice (some ⟨g, 0, none⟩) n cap) n cur) (i : Nat) (u : Value) : SpI A w gb nm N MF MB MT (wr.setCell ⟨g, i, none⟩ u) (.slice (some ⟨g, 0, none⟩) n cap) bv tv T nv nn MN bc := by
  obtain ⟨hA, hg⟩ := hf.blk (b := g) rfl
  have k := One.set g i wr u
  obtain ⟨f1, f2, f3, f4, f5, f6⟩ := h.frame k hA hg (by decide)
  obtain ⟨n2, d2, h2⟩ := h.b
  obtain ⟨d3, h3, h4⟩ := h.t
  exact ⟨f1, f2, f3, f4, f5, h.nw, f6, ⟨n, _, hf.set i u⟩, ⟨n2, d2, h2.other k hg (by decide)⟩, ⟨d3, h3.other k hg (by decide), h4⟩, fun i hi => (h.n i hi).other k hg (by decide) (.inl (by decide)), h.ap⟩
theorem SpI.putB {g n cap : Nat} {cur : Array Value} (h : SpI A w gb nm N MF MB MT wr fv (.slice (some ⟨g, 0, none⟩) n cap) tv T nv nn MN bc) (hf : WS A wr 2 1 MB (.slice (some ⟨g, 0, none⟩) n cap) n cur) (i : Nat) (u : Value) : SpI A w gb nm N MF MB MT (wr.setCell ⟨g, i, none⟩ u) fv (.slice (some ⟨g, 0, none⟩) n cap) tv T nv nn MN bc := by
  obtain ⟨hA, hg⟩ := hf.blk (b := g) rfl
  have k := One.set g i wr u
  obtain ⟨f1, f2, f3, f4, f5, f6⟩ := h.frame k hA hg (by decide)
  obtain ⟨n2, d2, h2⟩ := h.f
  obtain ⟨d3, h3, h4⟩ := h.t
  exact ⟨f1, f2, f3, f4, f5, h.nw, f6, ⟨n2, d2, h2.other k hg (by decide)⟩, ⟨n, _, hf.set i u⟩, ⟨d3, h3.other k hg (by decide), h4⟩, fun i hi => (h.n i hi).other k hg (by decide) (.inl (by decide)), h.ap⟩
/-- A cell of a node is written. -/
theorem SpI.putN {g n cap i0 : Nat} (h : SpI A w gb nm N MF MB MT wr fv bv tv T nv nn MN bc) (hi : i0 < T) (hv : nv i0 = .slice (some ⟨g, 0, none⟩) n cap) (j : Nat) (u : Value) (bc' : Nat → Nat) (hN : NdW A (wr.setCell ⟨g, j, none⟩ u) (MN i0) bc' (nv i0) (nn i0)) : SpI A w gb nm N MF MB MT (wr.setCell ⟨g, j, none⟩ u) fv bv tv T nv nn MN (fun i => if i = i0 then bc' else bc i) := by
  obtain ⟨cur, hw, -⟩ := h.n i0 hi
  obtain ⟨hA, hg⟩ := hw.blk (b := g) (by rw [hv]; rfl)
  have k := One.set g j wr u
  obtain ⟨f1, f2, f3, f4, f5, f6⟩ := h.frame k hA hg (by decide)
  obtain ⟨n1, d1, h1⟩ := h.f
  obtain ⟨n2, d2, h2⟩ := h.b
  obtain ⟨d3, h3, h4⟩ := h.t
  refine ⟨f1, f2, f3, f4, f5, h.nw, f6, ⟨n1, d1, h1.other k hg (by decide)⟩, ⟨n2, d2, h2.other k hg (by decide)⟩, ⟨d3, h3.other k hg (by decide), h4⟩, fun i hi' => ?_, h.ap⟩
  by_cases e : i = i0
  · subst e; rw [if_pos rfl]; exact hN
  · rw [if_neg e]
    exact (h.n i hi').other k hg (by decide) (.inr (h.ap i0 i hi hi' (fun q => e q.symm) g (by rw [hv]; rfl)))
/-- A tree's nodes have grown, and the new row is written into the tree. -/
theorem SpI.putT {gt ct g' i0 n' M' : Nat} {v' : Value} {w1 : World} {bc' : Nat → Nat} (h : SpI A w gb nm N MF MB MT wr fv bv (.slice (some ⟨gt, 0, none⟩) T ct) T nv nn MN bc) (hi : i0 < T) (k : One g' wr w1) (hA : A g') (hg' : (nv i0).ownBlock = some g' ∨ wr.heap.size ≤ g') (hN : NdW A w1 M' bc' v' n') (hv : v'.ownBlock = some g') :
    SpI A w gb nm N MF MB MT (w1.setCell ⟨gt, i0 * 2 + 1, none⟩ v') fv bv (.slice (some ⟨gt, 0, none⟩) T ct) T (fun i => if i = i0 then v' else nv i) (fun i => if i = i0 then n' else nn i) (fun i => if i = i0 then M' else MN i) (fun i => if i = i0 then bc' else bc i) := by
  obtain ⟨d3, h3, h4⟩ := h.t
  obtain ⟨hAt, hgt⟩ := h3.blk (b := gt) rfl
  have hlt : gt < wr.heap.size := (Array.getElem?_eq_some_iff.1 hgt).1
  -- what stands in the middle world
  have hty : ∀ (b E : Nat) (c : Array Value), E ≠ 40 → wr.heap[b]? = some (.cells c E (0, 0)) → w1.heap[b]? = some (.cells c E (0, 0)) := by
    intro b E c hE hb
    rw [k.oth b (Array.getElem?_eq_some_iff.1 hb).1 (fun e => ?_)]
    · exact hb
    · rcases hg' with hq | hq
      · obtain ⟨cur, hw, -⟩ := h.n i0 hi
        have := (hw.blk hq).2
        rw [← e, hb] at this
        simp at this
        exact hE this.2
      · have := (Array.getElem?_eq_some_iff.1 hb).1; omega
  have hws : ∀ (E z M : Nat) (v : Value) (n : Nat) (cur : Array Value), E ≠ 40 → WS A wr E z M v n cur → WS A w1 E z M v n cur := fun E z M v n cur hE hw => hw.same fun b hb => by rw [hty b E cur hE (hw.blk hb).2]; exact (hw.blk hb).2.symm
  have hgt1 := hty gt 24 d3 (by decide) hgt
  have k2 := One.set gt (i0 * 2 + 1) w1 v'
  obtain ⟨n1, d1, h1⟩ := h.f
  obtain ⟨n2, d2, h2⟩ := h.b
  have h3' := hws _ _ _ _ _ _ (by decide) h3
  refine ⟨k.os.trans h.os, k.tape.trans h.tape, k.output.trans h.output, ?_, ?_, h.nw, ?_, ⟨n1, d1, (hws _ _ _ _ _ _ (by decide) h1).other k2 hgt1 (by decide)⟩, ⟨n2, d2, (hws _ _ _ _ _ _ (by decide) h2).other k2 hgt1 (by decide)⟩, ⟨_, h3'.set (i0 * 2 + 1) v', fun i hi' => ?_⟩, fun i hi' => ?_, fun i j hi' hj hij b => ?_⟩
  · have := k.size; have := h.size; simp; omega
  · intro b hb hn
    rw [neq_set w1 gt _ _ b (fun e => hn (by rw [e]; exact hAt)), k.oth b (Nat.lt_of_lt_of_le hb h.size) (fun e => hn (by rw [e]; exact hA))]
    exact h.kp b hb hn
  · have hb1 := hty gb 52 _ (by decide) h.bx
    rw [neq_set w1 gt _ _ gb (fun e => by rw [e, hgt1] at hb1; simp at hb1)]
    exact hb1
  · have hsz : i * 2 + 1 < d3.size := by have := h4 i hi'; exact (Array.getElem?_eq_some_iff.1 this).1
    simp only [Array.getElem?_setIfInBounds]
    by_cases e : i = i0
    · subst e; rw [if_pos rfl, if_pos rfl, if_pos hsz]
    · rw [if_neg (by omega), if_neg e]; exact h4 i hi'
  · by_cases e : i = i0
    · subst e; simp only [if_pos]; exact hN.other k2 hgt1 (by decide) (.inl (by decide))
    · simp only [if_neg e]
      obtain ⟨cur, q1, q2⟩ := h.n i hi'
      refine NdW.other ⟨cur, q1.same fun b hb => k.oth b (Array.getElem?_eq_some_iff.1 (q1.blk hb).2).1 (fun e2 => ?_), fun j hj => ?_⟩ k2 hgt1 (by decide) (.inl (by decide))
      · rcases hg' with hq | hq
        · exact h.ap i0 i hi hi' (fun q => e q.symm) g' hq (by rw [hb, e2])
        · have := (Array.getElem?_eq_some_iff.1 (q1.blk hb).2).1; omega
      · obtain ⟨cv, e3, n3, c3, hc⟩ := q2 j hj
        exact ⟨cv, e3, n3, c3, hws _ _ _ _ _ _ (by decide) hc⟩
  · intro hb
    by_cases e : i = i0
    · subst e
      rw [if_pos rfl] at hb
      rw [if_neg (fun q => hij q.symm)]
      rw [hv] at hb
      simp only [Option.some.injEq] at hb
      subst hb
      rcases hg' with hq | hq
      · exact h.ap i j hi hj hij _ hq
      · intro hb2
        obtain ⟨cur, q1, -⟩ := h.n j hj
        have := (Array.getElem?_eq_some_iff.1 (q1.blk hb2).2).1
        omega
    · rw [if_neg e] at hb
      by_cases e2 : j = i0
      · subst e2
        rw [if_pos rfl, hv]
        intro hb2
        simp only [Option.some.injEq] at hb2
        subst hb2
        rcases hg' with hq | hq
        · exact h.ap i j hi' hj hij _ hb hq
        · obtain ⟨cur, q1, -⟩ := h.n i hi'
          have := (Array.getElem?_eq_some_iff.1 (q1.blk hb).2).1
          omega
      · rw [if_neg e2]; exact h.ap i j hi' hj hij b hb
end
end Go.Proofs.Ytbchinfmdioijaa
set_option linter.unusedVariables false
set_option linter.unusedSimpArgs false
namespace Go.Proofs.Ytbchinfmdioijaa
open Go.RowKit Go.Shelf
/-- append to a row in blocks of A, or to none. -/
theorem appWS_run {S E z by' : Nat} {zv : Value} (hS : Try.prog.underlying S = some (.slice E)) (iE : (Try.prog.info? E).map (fun i => (i.zero, i.size, i.bytes)) = some (some zv, z, by')) (hzc : zv.cells.size = z) {A : Nat → Prop} (w : World) (ty M n : Nat) (v : Value) (cur : Array Value) (hr : WS A w E z M v n cur) (hA : ∀ b, w.heap.size ≤ b → A b) (ad : Addr) (m c : Nat) (hm : 0 < m) (ys : List Value) (hl : ys.length = m * z) (hnews : ∀ j u, ys[j]? = some u → w.cell? (ad.add j) = some u) (h1 : ∀ u ∈ ys, u.oneCell' = true) (h63 : M + m ≤ 4611686018427387904) (hb : ((M + m) + (M + m) / 4 + 192) * by' ≤ 281474976710656) :
    ∃ g' cap' cur' w', (Builtin.append_ #[S, S] ty #[v, .slice (some ad) m c]).run Try.prog w = .ok (.slice (some ⟨g', 0, none⟩) (n + m) cap') w' ∧ WS A w' E z (M + m) (.slice (some ⟨g', 0, none⟩) (n + m) cap') (n + m) cur' ∧ A g' ∧ One g' w w' ∧
      (∀ i, i < n * z → cur'[i]? = cur[i]?) ∧ (∀ i, i < m * z → cur'[n * z + i]? = ys[i]?) ∧ ((v.ownBlock = some g' ∧ w.heap[g']? = some (.cells cur E (0, 0)) ∧ cur'.size = cur.size) ∨ g' = w.heap.size) := by
  have hM := hr.le
  have hb2 : ((n + m) + (n + m) / 4 + 192) * by' ≤ 281474976710656 := Nat.le_trans (Nat.mul_le_mul_right _ (by omega)) hb
  have hmx : (4611686018427387904 : Nat) ≤ maxLen := by decide
  rcases hr with ⟨rfl, rfl⟩ | ⟨g, cap, rfl, hAg, hw, -⟩
  · obtain ⟨i0, hi, hz0, hz1, hz2⟩ := info_parts iE
    subst hz1
    subst hz2
    have hrun := run_append_nil (P := Try.prog) w S ty E i0 _ hS hi hz0 ad m c ys hl hnews hm (by omega) (Nat.le_trans (Nat.mul_le_mul_right _ (by omega)) hb2)
    have hge := grownCap_ge w m 0 E
    refine ⟨w.heap.size, _, _, _, by rw [Nat.zero_add]; exact hrun, .inr ⟨w.heap.size, _, rfl, hA _ (Nat.le_refl _), ⟨heap_alloc_new w.drew _, by rw [Nat.zero_add]; exact hge, grownCap_le_maxLen w m 0 E (Nat.le_trans (by omega) hmx), ?_⟩, by omega⟩, hA _ (Nat.le_refl _), ⟨rfl, rfl, rfl, by simp, fun b hb _ => Below.heap_alloc w.drew _ _ hb⟩, fun i hi' => by rw [Nat.zero_mul] at hi'; omega, ?_, .inr rfl⟩
    · simp only [Array.size_append, List.size_toArray, size_zeroCells, hzc, hl, ← Nat.add_mul]
      rw [Nat.add_sub_cancel' hge]
    · intro i hi'
      rw [Nat.zero_mul, Nat.zero_add, Array.getElem?_append_left (by simp only [List.size_toArray, hl]; exact hi'), List.getElem?_toArray]
  · obtain ⟨g', cap', cur', w', h2, h3, o1, o2, o3, o4, o5, p1, p2, p3⟩ := appW_run hS iE hzc w ty g n cap cur hw ad m c ys hl hnews h1 (Nat.le_trans (by omega) hmx) hb2
    have hA' : A g' := by
      rcases p3 with ⟨rfl, -, -⟩ | rfl
      · exact hAg
      · exact hA _ (Nat.le_refl _)
    refine ⟨g', cap', cur', w', h2, .inr ⟨g', cap', rfl, hA', h3, by omega⟩, hA', ⟨o1, o2, o3, o4, o5⟩, p1, p2, ?_⟩
    rcases p3 with ⟨rfl, rfl, -⟩ | p3
    · exact .inl ⟨rfl, hw.1, by rw [h3.2.2.2, hw.2.2.2]⟩
    · exact .inr p3
section
variable {A : Nat → Prop} {w wr : World} {gb : Nat} {nm N : Value} {MF MB MT : Nat} {fv bv tv : Value} {T : Nat} {nv : Nat → Value} {nn MN : Nat → Nat} {bc : Nat → Nat → Nat}
/-- Categories have grown. -/
theorem SpI.appC (h : SpI A w gb nm N MF MB MT wr fv bv tv T nv nn MN bc) (ty M : Nat) (v : Value) (hv : CsW A wr M v) (ad : Addr) (c : Nat) (ys : List Value) (hl : ys.length = 3) (hnews : ∀ j u, ys[j]? = some u → wr.cell? (ad.add j) = some u) (h1 : ∀ u ∈ ys, u.oneCell' = true) (hM : M ≤ 17592186044416) :
    ∃ a' n' c' w', (Builtin.append_ #[29, 29] ty #[v, .slice (some ad) 3 c]).run Try.prog wr = .ok (.slice a' n' c') w' ∧ CsW A w' (M + 3) (.slice a' n' c') ∧ SpI A w gb nm N MF MB MT w' fv bv tv T nv nn MN bc := by
  obtain ⟨n, cur, hw⟩ := hv
  obtain ⟨g', cap', cur', w', hr, h2, hA, hO, -, -, h3⟩ := appWS_run Try.underlying29 i3 rfl wr ty M n v cur hw (fun b hb => h.nw b (Nat.le_trans h.size hb)) ad 3 c (by decide) ys (by omega) hnews h1 (by omega) (by omega)
  refine ⟨_, _, _, w', hr, ⟨_, cur', h2⟩, ?_⟩
  rcases h3 with ⟨hb, hg, hs⟩ | rfl
  · exact h.turn3 hO hA hg (h2.blk (b := g') rfl).2 hs
  · exact h.keep ⟨hO.os, hO.tape, hO.output, hO.size, fun b hb => hO.oth b hb (by omega)⟩
/-- As a step of a region. -/
theorem SpI.step_appC {ops : Array Oper} {o : Oper} {a : Act} {K : Act → World → Prop} {Q : Exit → Act → World → Prop} {X : Prop} (h : SpI A w gb nm N MF MB MT wr fv bv tv T nv nn MN bc) (hgd : o.guard = none) (s x : Operand) (ho : o.op = .call { callee := .builtin .append, args := #[s, x], argTypes := #[29, 29] }) (M B0 : Nat) (v : Value) (hv : CsW A wr M v) (hlit : wr.heap[B0]? = some (.cells #[.int .i64 7, .int .i64 7, .int .i64 7] 3 (0, 0))) (hM : M ≤ 17592186044416) (hs : a.eval s = v) (hx : a.eval x = .slice (some ⟨B0, 0, none⟩) 3 3)
    (hK : ∀ a' n' c' w', CsW A w' (M + 3) (.slice a' n' c') → SpI A w gb nm N MF MB MT w' fv bv tv T nv nn MN bc → K (a.put o.dst (.slice a' n' c')) w') :
    if Region.wanted o (yielded ops a.tmps) = true then Oper.wp Try.prog o a wr K Q else X := by
  have hw : Region.wanted o (yielded ops a.tmps) = true := by simp [Region.wanted, hgd]
  rw [if_pos hw]
  obtain ⟨a', n', c', w', hr, h2, h3⟩ := h.appC o.type M v hv ⟨B0, 0, none⟩ 3 [.int .i64 7, .int .i64 7, .int .i64 7] rfl (by
    intro j u hj
    rw [Addr.add_lit, Nat.zero_add, cell_of_row wr B0 j _ 3 (0, 0) hlit, ← hj]
    simp) (by intro u hu; simp at hu; rw [hu]; rfl) hM
  unfold Oper.wp execOp
  simp only [ho, resolve, invoke, builtin, Sem.run_bind, Sem.run_pure, Result.andThen_ok, List.map_toArray, List.map_cons, List.map_nil, hs, hx, hr]
  exact hK a' n' c' w' h2 h3
/-- The cells of two nodes with nothing in them. -/
def zn : List Value := [.int .u8 0, .int .i64 0, .int .i64 0, .float .f64 0, .slice none 0 0, .int .u8 0, .int .i64 0, .int .i64 0]
/-- Nodes have grown. -/
theorem SpI.appN (h : SpI A w gb nm N MF MB MT wr fv bv tv T nv nn MN bc) {i0 : Nat} (hi : i0 < T) (ty : Nat) (ad : Addr) (c : Nat) (hnews : ∀ j u, (zn ++ zn)[j]? = some u → wr.cell? (ad.add j) = some u) (hM : MN i0 ≤ 1759218604441) :
    ∃ g' cap' w', (Builtin.append_ #[22, 22] ty #[nv i0, .slice (some ad) 2 c]).run Try.prog wr = .ok (.slice (some ⟨g', 0, none⟩) (nn i0 + 2) cap') w' ∧ NdW A w' (MN i0 + 2) (fun k => if k < nn i0 then bc i0 k else 0) (.slice (some ⟨g', 0, none⟩) (nn i0 + 2) cap') (nn i0 + 2) ∧ A g' ∧ One g' wr w' ∧ ((nv i0).ownBlock = some g' ∨ wr.heap.size ≤ g') := by
  obtain ⟨cur, hw, hc⟩ := h.n i0 hi
  have h1 : ∀ u ∈ zn ++ zn, u.oneCell' = true := by
    intro u hu
    simp [zn] at hu
    rcases hu with rfl | rfl | rfl | rfl | rfl | rfl | rfl | rfl | rfl | rfl | rfl | rfl | rfl | rfl | rfl | rfl <;> rfl
  obtain ⟨g', cap', cur', w', hr, h2, hA, hO, p1, p2, h3⟩ := appWS_run Try.underlying22 i40 rfl wr ty (MN i0) (nn i0) (nv i0) cur hw (fun b hb => h.nw b (Nat.le_trans h.size hb)) ad 2 c (by decide) (zn ++ zn) rfl hnews h1 (by omega) (by omega)
  refine ⟨g', cap', w', hr, ⟨cur', h2, fun k hk => ?_⟩, hA, hO, ?_⟩
  · by_cases hkn : k < nn i0
    · obtain ⟨cv, e, n3, c3, hcv⟩ := hc k hkn
      refine ⟨cv, by rw [p1 _ (by omega)]; exact e, n3, c3, ?_⟩
      simp only [if_pos hkn]
      refine hcv.same fun b hb => ?_
      obtain ⟨-, hb2⟩ := hcv.blk hb
      refine hO.oth b (Array.getElem?_eq_some_iff.1 hb2).1 (fun e2 => ?_)
      rcases h3 with ⟨-, hg, -⟩ | hg
      · rw [e2, hg] at hb2; simp at hb2
      · have := (Array.getElem?_eq_some_iff.1 hb2).1; omega
    · refine ⟨.slice none 0 0, ?_, 0, #[], .inl ⟨rfl, rfl⟩⟩
      have hk2 : k = nn i0 ∨ k = nn i0 + 1 := by omega
      rcases hk2 with rfl | rfl
      · rw [p2 4 (by omega)]; rfl
      · rw [show (nn i0 + 1) * 8 + 4 = nn i0 * 8 + 12 by omega, p2 12 (by omega)]; rfl
  · rcases h3 with ⟨h3, -, -⟩ | h3
    · exact .inl h3
    · exact .inr (by omega)
end
end Go.Proofs.Ytbchinfmdioijaa
