import Derived.Test.YtaogjiffnebnkaaWB
import Derived.Laws.AppendOwn
import Derived.Deep.DeepAppendWide
import Derived.Deep.RegionLaw
import Derived.Laws.Externs
import Derived.Test.YtaogjiffnebnkaaV9
import Derived.BigQuiet
import Derived.BigRegion
import Derived.Deep.RegionHeld3
set_option linter.unusedVariables false
set_option linter.unusedSimpArgs false
namespace Go.Proofs.Ytaogjiffnebnkaa.Ow
open Go.RowKit Go.Shelf
/-- A row from its block's head on, whatever it holds. -/
def WR (w : World) (E z : Nat) (g n cap : Nat) (cur : Array Value) : Prop := w.heap[g]? = some (.cells cur E (0, 0)) ∧ n ≤ cap ∧ cap ≤ maxLen ∧ cur.size = cap * z
/-- append to such a row, told in full. -/
theorem appW_run {S E z by' : Nat} {zv : Value} (hS : Try.prog.underlying S = some (.slice E)) (iE : (Try.prog.info? E).map (fun i => (i.zero, i.size, i.bytes)) = some (some zv, z, by')) (hzc : zv.cells.size = z) (w : World) (ty g n cap : Nat) (cur : Array Value) (hr : WR w E z g n cap cur) (ad : Addr) (m c : Nat) (ys : List Value) (hl : ys.length = m * z) (hnews : ∀ j u, ys[j]? = some u → w.cell? (ad.add j) = some u) (h1 : ∀ u ∈ ys, u.oneCell' = true) (h63 : n + m ≤ maxLen) (hb : ((n + m) + (n + m) / 4 + 192) * by' ≤ 281474976710656) :
    ∃ g' cap' cur' w', (Builtin.append_ #[S, S] ty #[.slice (some ⟨g, 0, none⟩) n cap, .slice (some ad) m c]).run Try.prog w = .ok (.slice (some ⟨g', 0, none⟩) (n + m) cap') w' ∧ WR w' E z g' (n + m) cap' cur' ∧ w'.os = w.os ∧ w'.tape = w.tape ∧ w'.output = w.output ∧ w.heap.size ≤ w'.heap.size ∧ (∀ b, b < w.heap.size → b ≠ g' → w'.heap[b]? = w.heap[b]?) ∧
      (∀ i, i < n * z → cur'[i]? = cur[i]?) ∧ (∀ i, i < m * z → cur'[n * z + i]? = ys[i]?) ∧ ((g' = g ∧ cap' = cap ∧ ∀ i, (n + m) * z ≤ i → cur'[i]? = cur[i]?) ∨ g' = w.heap.size) := by
  obtain ⟨i0, hi, hz0, hz1, hz2⟩ := info_parts iE
  obtain ⟨hg, hnc, hcm, hcs⟩ := hr
  subst hz1
  subst hz2
  have hsmall : n + m ≤ 9223372036854775807 := by simp only [maxLen] at h63; omega
  have hnz : n * i0.size ≤ cur.size := by rw [hcs]; exact Nat.mul_le_mul_right _ hnc
  have htl : (cur.toList.take (n * i0.size)).length = n * i0.size := by rw [List.length_take, Array.length_toList]; omega
  by_cases hroom : n + m ≤ cap
  · have hfit : n * i0.size + ys.length ≤ cur.size := by rw [hl, hcs, ← Nat.add_mul]; exact Nat.mul_le_mul_right _ hroom
    have hrun := run_append_room (P := Try.prog) w S ty E i0 hS hi g n cap cur hg ad m c ys hl hnews h1 hroom hfit
    refine ⟨g, cap, _, _, hrun, ⟨setRow_heap w g cur _ E _ hg, hroom, hcm, ?_⟩, rfl, rfl, rfl, by simp, fun b _ hb => setRow_other w g b _ hb, ?_, ?_, .inl ⟨rfl, rfl, ?_⟩⟩
    · simp only [List.size_toArray, List.length_append, List.length_take, List.length_drop, Array.length_toList]
      omega
    · intro i hi'
      simp only [List.getElem?_toArray]
      rw [List.append_assoc, List.getElem?_append_left (by rw [htl]; exact hi'), List.getElem?_take, if_pos hi', Array.getElem?_toList]
    · intro i hi'
      simp only [List.getElem?_toArray]
      rw [List.append_assoc, List.getElem?_append_right (by rw [htl]; omega), htl, Nat.add_sub_cancel_left, List.getElem?_append_left (by rw [hl]; exact hi')]
    · intro i hi'
      rw [Nat.add_mul] at hi'
      simp only [List.getElem?_toArray]
      rw [List.append_assoc, List.getElem?_append_right (by rw [htl]; omega), htl, List.getElem?_append_right (by rw [hl]; omega), List.getElem?_drop, hl, Array.getElem?_toList, Nat.sub_sub, Nat.add_sub_cancel' hi']
  · have holds : ∀ j u, (cur.toList.take (n * i0.size))[j]? = some u → w.cell? ((⟨g, 0, none⟩ : Addr).add j) = some u := by
      intro j u hj
      have hjl : j < n * i0.size := by have := (List.getElem?_eq_some_iff.1 hj).1; rw [htl] at this; exact this
      rw [Addr.add_lit, Nat.zero_add, cell_of_row w g j cur E (0, 0) hg, ← hj, List.getElem?_take, if_pos hjl, Array.getElem?_toList]
    have hrun := run_append_grow (P := Try.prog) w S ty E i0 _ hS hi hz0 ⟨g, 0, none⟩ n cap (cur.toList.take (n * i0.size)) htl holds ad m c ys hl hnews (by omega) (by omega) (growslice_fits_wide (by omega) hb)
    have hge := grownCap_ge w (n + m) cap E
    refine ⟨w.heap.size, _, _, _, hrun, ⟨heap_alloc_new w.drew _, hge, grownCap_le_maxLen w (n + m) cap E h63, ?_⟩, rfl, rfl, rfl, by simp, fun b hb _ => Below.heap_alloc w.drew _ _ hb, ?_, ?_, .inr rfl⟩
    · simp only [Array.size_append, List.size_toArray, size_zeroCells, hzc, htl, hl, ← Nat.add_mul]
      rw [Nat.add_sub_cancel' hge]
    · intro i hi'
      rw [Array.append_assoc, Array.getElem?_append_left (by simp only [List.size_toArray, htl]; exact hi'), List.getElem?_toArray, List.getElem?_take, if_pos hi', Array.getElem?_toList]
    · intro i hi'
      rw [Array.append_assoc, Array.getElem?_append_right (by simp only [List.size_toArray, htl]; omega)]
      simp only [List.size_toArray, htl]
      rw [Nat.add_sub_cancel_left, Array.getElem?_append_left (by simp only [List.size_toArray, hl]; exact hi'), List.getElem?_toArray]
/-- A row in blocks of A, whatever it holds; or none. -/
def WS (A : Nat → Prop) (w : World) (E z M : Nat) (v : Value) (n : Nat) (cur : Array Value) : Prop := (v = .slice none 0 0 ∧ n = 0) ∨ ∃ g cap, v = .slice (some ⟨g, 0, none⟩) n cap ∧ A g ∧ WR w E z g n cap cur ∧ n ≤ M
theorem WS.le {A : Nat → Prop} {w : World} {E z M : Nat} {v : Value} {n : Nat} {cur : Array Value} (h : WS A w E z M v n cur) : n ≤ M := by
  rcases h with ⟨-, h⟩ | ⟨g, cap, -, -, -, h⟩ <;> omega
theorem WS.blk {A : Nat → Prop} {w : World} {E z M : Nat} {v : Value} {n : Nat} {cur : Array Value} (h : WS A w E z M v n cur) {b : Nat} (hb : v.ownBlock = some b) : A b ∧ w.heap[b]? = some (.cells cur E (0, 0)) := by
  rcases h with ⟨h, -⟩ | ⟨g, cap, rfl, hA, hr, -⟩
  · rw [h] at hb; cases hb
  · have hb : some g = some b := hb
    simp only [Option.some.injEq] at hb
    subst hb
    exact ⟨hA, hr.1⟩
theorem WS.same {A : Nat → Prop} {w w' : World} {E z M : Nat} {v : Value} {n : Nat} {cur : Array Value} (h : WS A w E z M v n cur) (k : ∀ b, v.ownBlock = some b → w'.heap[b]? = w.heap[b]?) : WS A w' E z M v n cur := by
  rcases h with h | ⟨g, cap, hv, hA, hr, hM⟩
  · exact .inl h
  · exact .inr ⟨g, cap, hv, hA, ⟨by rw [k g (by rw [hv]; rfl)]; exact hr.1, hr.2⟩, hM⟩
/-- Only one block has turned, beside new ones. -/
structure One (g0 : Nat) (w w' : World) : Prop where
  os : w'.os = w.os
  tape : w'.tape = w.tape
  output : w'.output = w.output
  size : w.heap.size ≤ w'.heap.size
  oth : ∀ b, b < w.heap.size → b ≠ g0 → w'.heap[b]? = w.heap[b]?
theorem One.refl (g0 : Nat) (w : World) : One g0 w w := ⟨rfl, rfl, rfl, Nat.le_refl _, fun _ _ _ => rfl⟩
theorem One.trans {g0 : Nat} {a b c : World} (h : One g0 a b) (k : One g0 b c) : One g0 a c := ⟨k.os.trans h.os, k.tape.trans h.tape, k.output.trans h.output, Nat.le_trans h.size k.size, fun b hb hn => (k.oth b (Nat.lt_of_lt_of_le hb h.size) hn).trans (h.oth b hb hn)⟩
theorem One.of_keep {g0 : Nat} {a b : World} (h : Keep a b) : One g0 a b := ⟨h.os, h.tape, h.output, h.size, fun b hb _ => h.block b hb⟩
theorem One.set (g0 j : Nat) (w : World) (u : Value) : One g0 w (w.setCell ⟨g0, j, none⟩ u) := ⟨rfl, rfl, rfl, by simp, fun b _ hb => neq_set w g0 j u b hb⟩
theorem WS.other {A : Nat → Prop} {w w' : World} {E E0 z M g0 : Nat} {v : Value} {n : Nat} {cur c0 : Array Value} (h : WS A w E z M v n cur) (k : One g0 w w') (hg : w.heap[g0]? = some (.cells c0 E0 (0, 0))) (hE : E ≠ E0) : WS A w' E z M v n cur :=
  h.same fun b hb => by
    obtain ⟨-, h1⟩ := h.blk hb
    refine k.oth b (Array.getElem?_eq_some_iff.1 h1).1 (fun e => ?_)
    rw [e, hg] at h1
    simp at h1
    exact hE h1.2.symm
theorem WS.set {A : Nat → Prop} {w : World} {E z M : Nat} {g n cap : Nat} {cur : Array Value} (h : WS A w E z M (.slice (some ⟨g, 0, none⟩) n cap) n cur) (i : Nat) (u : Value) : WS A (w.setCell ⟨g, i, none⟩ u) E z M (.slice (some ⟨g, 0, none⟩) n cap) n (cur.setIfInBounds i u) := by
  rcases h with ⟨h, -⟩ | ⟨g', cap', hv, hA, hr, hM⟩
  · simp at h
  · simp only [Value.slice.injEq, Option.some.injEq, Addr.mk.injEq, and_true, true_and] at hv
    obtain ⟨rfl, rfl⟩ := hv
    exact .inr ⟨g, cap, rfl, hA, ⟨heap_setCell_same w g i cur E u hr.1, hr.2.1, hr.2.2.1, by simpa using hr.2.2.2⟩, hM⟩
/-- A list of categories, whatever it holds. -/
def CsW (A : Nat → Prop) (w : World) (M : Nat) (v : Value) : Prop := ∃ n cur, WS A w 3 1 M v n cur
theorem CsW.other {A : Nat → Prop} {w w' : World} {E0 M g0 : Nat} {v : Value} {c0 : Array Value} (h : CsW A w M v) (k : One g0 w w') (hg : w.heap[g0]? = some (.cells c0 E0 (0, 0))) (hE : 3 ≠ E0) : CsW A w' M v := by
  obtain ⟨n, cur, h⟩ := h
  exact ⟨n, cur, h.other k hg hE⟩
theorem CsW.turn {A : Nat → Prop} {w w' : World} {M g0 : Nat} {v : Value} {c0 c1 : Array Value} (h : CsW A w M v) (k : One g0 w w') (hg : w.heap[g0]? = some (.cells c0 3 (0, 0))) (hg' : w'.heap[g0]? = some (.cells c1 3 (0, 0))) (hs : c1.size = c0.size) : CsW A w' M v := by
  obtain ⟨n, cur, h⟩ := h
  rcases h with h | ⟨g, cap, hv, hA, hr, hM⟩
  · exact ⟨n, cur, .inl h⟩
  · by_cases e : g = g0
    · subst e
      have : cur = c0 := by have := hr.1; rw [hg] at this; simpa using this.symm
      subst this
      exact ⟨n, c1, .inr ⟨g, cap, hv, hA, ⟨hg', hr.2.1, hr.2.2.1, by rw [hs]; exact hr.2.2.2⟩, hM⟩⟩
    · exact ⟨n, cur, .inr ⟨g, cap, hv, hA, ⟨by rw [k.oth g (Array.getElem?_eq_some_iff.1 hr.1).1 e]; exact hr.1, hr.2⟩, hM⟩⟩
theorem CsW.mono {A : Nat → Prop} {w : World} {M M' : Nat} {v : Value} (h : CsW A w M v) (hM : M ≤ M') : CsW A w M' v := by
  obtain ⟨n, cur, h⟩ := h
  rcases h with h | ⟨g, cap, hv, hA, hr, h1⟩
  · exact ⟨n, cur, .inl h⟩
  · exact ⟨n, cur, .inr ⟨g, cap, hv, hA, hr, by omega⟩⟩
theorem WS.keep {A : Nat → Prop} {w w' : World} {E z M : Nat} {v : Value} {n : Nat} {cur : Array Value} (h : WS A w E z M v n cur) (k : Keep w w') : WS A w' E z M v n cur := h.same fun b hb => k.block b (Array.getElem?_eq_some_iff.1 (h.blk hb).2).1
theorem CsW.keep {A : Nat → Prop} {w w' : World} {M : Nat} {v : Value} (h : CsW A w M v) (k : Keep w w') : CsW A w' M v := by
  obtain ⟨n, cur, h⟩ := h
  exact ⟨n, cur, h.keep k⟩
/-- append to a row in blocks of A, or to none. -/
theorem appWS_run {S E z by' : Nat} {zv : Value} (hS : Try.prog.underlying S = some (.slice E)) (iE : (Try.prog.info? E).map (fun i => (i.zero, i.size, i.bytes)) = some (some zv, z, by')) (hzc : zv.cells.size = z) {A : Nat → Prop} (w : World) (ty M n : Nat) (v : Value) (cur : Array Value) (hr : WS A w E z M v n cur) (hA : ∀ b, w.heap.size ≤ b → A b) (ad : Addr) (m c : Nat) (hm : 0 < m) (ys : List Value) (hl : ys.length = m * z) (hnews : ∀ j u, ys[j]? = some u → w.cell? (ad.add j) = some u) (h1 : ∀ u ∈ ys, u.oneCell' = true) (h63 : M + m ≤ 4611686018427387904) (hb : ((M + m) + (M + m) / 4 + 192) * by' ≤ 281474976710656) :
    ∃ g' cap' cur' w', (Builtin.append_ #[S, S] ty #[v, .slice (some ad) m c]).run Try.prog w = .ok (.slice (some ⟨g', 0, none⟩) (n + m) cap') w' ∧ WS A w' E z (M + m) (.slice (some ⟨g', 0, none⟩) (n + m) cap') (n + m) cur' ∧ A g' ∧ One g' w w' ∧
      (∀ i, i < n * z → cur'[i]? = cur[i]?) ∧ (∀ i, i < m * z → cur'[n * z + i]? = ys[i]?) ∧ ((v.ownBlock = some g' ∧ w.heap[g']? = some (.cells cur E (0, 0)) ∧ cur'.size = cur.size) ∨ g' = w.heap.size) := by
  have hM := hr.le
  have hb2 : ((n + m) + (n + m) / 4 + 192) * by' ≤ 281474976710656 := Nat.le_trans (Nat.mul_le_mul_right _ (by omega)) hb
  have hmx : (4611686018427387904 : Nat) ≤ maxLen := by decide
  rcases hr with ⟨rfl, rfl⟩ | ⟨g, cap, rfl, hAg, hw, -⟩
  · obtain ⟨i0, hi, hz0, hz1, hz2⟩ := info_parts iE
    subst hz1
    subst hz2
    have hrun := run_append_nil (P := Try.prog) w S ty E i0 _ hS hi hz0 ad m c ys hl hnews hm (by omega) (Nat.le_trans (Nat.mul_le_mul_right _ (by omega)) hb2)
    have hge := grownCap_ge w m 0 E
    refine ⟨w.heap.size, _, _, _, by rw [Nat.zero_add]; exact hrun, .inr ⟨w.heap.size, _, rfl, hA _ (Nat.le_refl _), ⟨heap_alloc_new w.drew _, by rw [Nat.zero_add]; exact hge, grownCap_le_maxLen w m 0 E (Nat.le_trans (by omega) hmx), ?_⟩, by omega⟩, hA _ (Nat.le_refl _), ⟨rfl, rfl, rfl, by simp, fun b hb _ => Below.heap_alloc w.drew _ _ hb⟩, fun i hi' => by rw [Nat.zero_mul] at hi'; omega, ?_, .inr rfl⟩
    · simp only [Array.size_append, List.size_toArray, size_zeroCells, hzc, hl, ← Nat.add_mul]
      rw [Nat.add_sub_cancel' hge]
    · intro i hi'
      rw [Nat.zero_mul, Nat.zero_add, Array.getElem?_append_left (by simp only [List.size_toArray, hl]; exact hi'), List.getElem?_toArray]
  · obtain ⟨g', cap', cur', w', h2, h3, o1, o2, o3, o4, o5, p1, p2, p3⟩ := appW_run hS iE hzc w ty g n cap cur hw ad m c ys hl hnews h1 (Nat.le_trans (by omega) hmx) hb2
    have hA' : A g' := by
      rcases p3 with ⟨rfl, -, -⟩ | rfl
      · exact hAg
      · exact hA _ (Nat.le_refl _)
    refine ⟨g', cap', cur', w', h2, .inr ⟨g', cap', rfl, hA', h3, by omega⟩, hA', ⟨o1, o2, o3, o4, o5⟩, p1, p2, ?_⟩
    rcases p3 with ⟨rfl, rfl, -⟩ | p3
    · exact .inl ⟨rfl, hw.1, by rw [h3.2.2.2, hw.2.2.2]⟩
    · exact .inr p3
theorem WS.of_own {A : Nat → Prop} {B : Nat} {w : World} {E z M : Nat} {v : Value} {n : Nat} {xs : List Value} (h : w.ownsRow B E z v n xs) (hA : ∀ g, v.ownBlock = some g → A g) (hM : n ≤ M) : ∃ cur, WS A w E z M v n cur ∧ ∀ i, i < n * z → cur[i]? = xs[i]? := by
  obtain ⟨hl, ⟨rfl, rfl⟩ | ⟨g, cap, cur, rfl, hg, hh, hnc, hcm, hcs, ht⟩⟩ := h
  · exact ⟨#[], .inl ⟨rfl, rfl⟩, fun i hi => by simp at hi⟩
  · refine ⟨cur, .inr ⟨g, cap, rfl, hA g rfl, ⟨hh, hnc, hcm, hcs⟩, hM⟩, fun i hi => ?_⟩
    rw [← ht, List.getElem?_take, if_pos hi, Array.getElem?_toList]
theorem WS.mono {A A' : Nat → Prop} {w : World} {E z M M' : Nat} {v : Value} {n : Nat} {cur : Array Value} (h : WS A w E z M v n cur) (hA : ∀ b, A b → A' b) (hM : M ≤ M') : WS A' w E z M' v n cur := by
  rcases h with h | ⟨g, cap, hv, h1, hr, h2⟩
  · exact .inl h
  · exact .inr ⟨g, cap, hv, hA g h1, hr, by omega⟩
theorem WS.at {A : Nat → Prop} {w : World} {E z M : Nat} {g n cap : Nat} {cur : Array Value} (h : WS A w E z M (.slice (some ⟨g, 0, none⟩) n cap) n cur) {i : Nat} (hi : i < n * z) : ∃ u, cur[i]? = some u ∧ w.cell? ⟨g, i, none⟩ = some u ∧ w.frozen? ⟨g, i, none⟩ = false := by
  rcases h with ⟨h, -⟩ | ⟨g', cap', hv, hA, hr, hM⟩
  · simp at h
  · simp only [Value.slice.injEq, Option.some.injEq, Addr.mk.injEq, and_true, true_and] at hv
    obtain ⟨rfl, rfl⟩ := hv
    have hs : i < cur.size := by rw [hr.2.2.2]; exact Nat.lt_of_lt_of_le hi (Nat.mul_le_mul_right _ hr.2.1)
    exact ⟨cur[i], Array.getElem?_eq_getElem hs, by rw [cell_of_row w g i cur E (0, 0) hr.1]; exact Array.getElem?_eq_getElem hs, frozen_of_row w g i cur E hr.1⟩
theorem WS.shape {A : Nat → Prop} {w : World} {E z M : Nat} {v : Value} {n : Nat} {cur : Array Value} (h : WS A w E z M v n cur) : ∃ a c, v = .slice a n c ∧ (0 < n → ∃ g, a = some ⟨g, 0, none⟩) := by
  rcases h with ⟨rfl, rfl⟩ | ⟨g, cap, rfl, -⟩
  · exact ⟨none, 0, rfl, fun h => by omega⟩
  · exact ⟨some ⟨g, 0, none⟩, cap, rfl, fun _ => ⟨g, rfl⟩⟩
theorem WS.room {A : Nat → Prop} {w : World} {E z M : Nat} {g n cap : Nat} {cur : Array Value} (h : WS A w E z M (.slice (some ⟨g, 0, none⟩) n cap) n cur) : n * z ≤ cur.size ∧ w.heap[g]? = some (.cells cur E (0, 0)) := by
  rcases h with ⟨h, -⟩ | ⟨g', cap', hv, hA, hr, hM⟩
  · simp at h
  · simp only [Value.slice.injEq, Option.some.injEq, Addr.mk.injEq, and_true, true_and] at hv
    obtain ⟨rfl, rfl⟩ := hv
    exact ⟨by rw [hr.2.2.2]; exact Nat.mul_le_mul_right _ hr.2.1, hr.1⟩
end Go.Proofs.Ytaogjiffnebnkaa.Ow
set_option linter.unusedVariables false
set_option linter.unusedSimpArgs false
namespace Go.Proofs.Ytaogjiffnebnkaa.Ow
open Go.RowKit Go.Shelf
attribute [local go_sem] run_store_float
theorem f64from (x : Nat) (w : World) : (callFunc 72 #[.int .u64 (x : Nat)]).run Try.prog w = .ok (.value (.float .f64 x)) w := by
  rw [run_callFunc_extern Try.func72 (by kernel_rfl) (by kernel_rfl) (by kernel_rfl) (e := Extern.MathFloatBits.float64frombits) (by kernel_rfl)]
  rfl
theorem Inf_any (w : World) : Calls Try.prog 49 #[.int .i64 1] w fun e w' => e = .returned (.float .f64 9218868437227405312) ∧ w' = w := by
  have hf := f64from 9218868437227405312
  rw [show ((9218868437227405312 : Nat) : Int) = 9218868437227405312 from rfl] at hf
  go_enter Try.func49, Try.ntmps49
  go_wp2
  go_ret
  exact ⟨rfl, rfl⟩
/-- What has changed: blocks of S alone, beside new ones. -/
structure Ext (S : Nat → Prop) (w w' : World) : Prop where
  os : w'.os = w.os
  tape : w'.tape = w.tape
  output : w'.output = w.output
  size : w.heap.size ≤ w'.heap.size
  kp : ∀ b, b < w.heap.size → ¬ S b → w'.heap[b]? = w.heap[b]?
theorem Ext.of_keep {w w' : World} (k : Keep w w') (S : Nat → Prop) : Ext S w w' := ⟨k.os, k.tape, k.output, k.size, fun b hb _ => k.block b hb⟩
theorem Ext.trans {S : Nat → Prop} {a b c : World} (h : Ext S a b) (k : Ext S b c) : Ext S a c := ⟨k.os.trans h.os, k.tape.trans h.tape, k.output.trans h.output, Nat.le_trans h.size k.size, fun x hx hn => (k.kp x (Nat.lt_of_lt_of_le hx h.size) hn).trans (h.kp x hx hn)⟩
theorem Ext.mono {S S' : Nat → Prop} {w w' : World} (h : Ext S w w') (hS : ∀ b, b < w.heap.size → S b → S' b) : Ext S' w w' := ⟨h.os, h.tape, h.output, h.size, fun b hb hn => h.kp b hb fun q => hn (hS b hb q)⟩
theorem Ext.keep {S : Nat → Prop} {w w' : World} (h : Ext S w w') (hS : ∀ b, S b → w.heap.size ≤ b) : Keep w w' := ⟨h.os, h.tape, h.output, h.size, fun b hb => h.kp b hb fun q => by have := hS b q; omega⟩
/-- The blocks of a row of cuts, in all its depth. -/
def bl (v : Value) (K : List CI) (b : Nat) : Prop := v.ownBlock = some b ∨ ∃ r ∈ K, (Value.slice r.2.1 0 0).ownBlock = some b
/-- A row of cuts of one's own, in all its depth. -/
structure Rw (B : Nat) (w : World) (v : Value) (K : List CI) : Prop where
  row : WrC B w v K
  cat : ∀ r ∈ K, OwnZ 3 B w (.slice r.2.1 r.1.cs.length r.2.2) r.1.cs ∧ r.1.cs.length ≤ 17592186044416
theorem Rw.of_oc {L : List Ct} {w : World} {v : Value} {wr : World} {K : List CI} (h : OC L w v wr K) : Rw w.heap.size wr v K := ⟨h.own.wr, h.cats⟩
theorem Rw.in {B : Nat} {w : World} {v : Value} {K : List CI} (h : Rw B w v K) {b : Nat} (hb : bl v K b) : B ≤ b ∧ b < w.heap.size := by
  rcases hb with hb | ⟨r, hr, hb⟩
  · obtain ⟨h1, c, h2⟩ := h.row.block hb
    exact ⟨h1, (Array.getElem?_eq_some_iff.1 h2).1⟩
  · rw [blk_any _ _ _ r.1.cs.length r.2.2] at hb
    obtain ⟨h1, c, h2⟩ := (h.cat r hr).1.block hb
    exact ⟨h1, (Array.getElem?_eq_some_iff.1 h2).1⟩
theorem Rw.same {B : Nat} {w w' : World} {v : Value} {K : List CI} (h : Rw B w v K) (k : ∀ b, bl v K b → w'.heap[b]? = w.heap[b]?) : Rw B w' v K :=
  ⟨h.row.same fun b hb => k b (.inl hb), fun r hr => ⟨(h.cat r hr).1.same fun b hb => k b (.inr ⟨r, hr, by rw [blk_any _ _ _ r.1.cs.length r.2.2]; exact hb⟩), (h.cat r hr).2⟩⟩
theorem Rw.ext {B : Nat} {S : Nat → Prop} {w w' : World} {v : Value} {K : List CI} (h : Rw B w v K) (k : Ext S w w') (hS : ∀ b, bl v K b → ¬ S b) : Rw B w' v K := h.same fun b hb => k.kp b (h.in hb).2 (hS b hb)
theorem Rw.rd {B : Nat} {w : World} {v : Value} {K : List CI} (h : Rw B w v K) : ∃ a c, v = .slice a K.length c ∧ RdC w a (K.map (fun r => r.1)) ∧ K.length ≤ c := h.row.rd h.cat
/-- Cuts that are spoilt: those from i on stand. -/
structure SpI (A : Nat → Prop) (w wr : World) (g n i : Nat) : Prop where
  os : wr.os = w.os
  tape : wr.tape = w.tape
  output : wr.output = w.output
  size : w.heap.size ≤ wr.heap.size
  kp : ∀ b, b < w.heap.size → ¬ A b → wr.heap[b]? = w.heap[b]?
  nw : ∀ b, w.heap.size ≤ b → A b
  hA : A g
  c : ∃ cur : Array Value, wr.heap[g]? = some (.cells cur 57 (0, 0)) ∧ n * 5 ≤ cur.size ∧ ∀ k, i ≤ k → k < n → ∃ cv, cur[k * 5 + 1]? = some cv ∧ CsW A wr 17592186044416 cv
section
variable {A : Nat → Prop} {w wr w' : World} {g n i : Nat}
theorem SpI.keep (h : SpI A w wr g n i) (k : Keep wr w') : SpI A w w' g n i := by
  obtain ⟨cur, h1, h2, h3⟩ := h.c
  refine ⟨k.os.trans h.os, k.tape.trans h.tape, k.output.trans h.output, Nat.le_trans h.size k.size, fun b hb hn => (k.block b (Nat.lt_of_lt_of_le hb h.size)).trans (h.kp b hb hn), h.nw, h.hA, cur, (k.block _ (Array.getElem?_eq_some_iff.1 h1).1).trans h1, h2, fun j hj hjn => ?_⟩
  obtain ⟨cv, e, hc⟩ := h3 j hj hjn
  exact ⟨cv, e, hc.keep k⟩
theorem SpI.turn3 {g0 : Nat} {c0 c1 : Array Value} (h : SpI A w wr g n i) (k : One g0 wr w') (hA : A g0) (hg : wr.heap[g0]? = some (.cells c0 3 (0, 0))) (hg' : w'.heap[g0]? = some (.cells c1 3 (0, 0))) (hs : c1.size = c0.size) : SpI A w w' g n i := by
  obtain ⟨cur, h1, h2, h3⟩ := h.c
  refine ⟨k.os.trans h.os, k.tape.trans h.tape, k.output.trans h.output, Nat.le_trans h.size k.size, fun b hb hn => (k.oth b (Nat.lt_of_lt_of_le hb h.size) (fun e => hn (by rw [e]; exact hA))).trans (h.kp b hb hn), h.nw, h.hA, cur, ?_, h2, fun j hj hjn => ?_⟩
  · rw [k.oth g (Array.getElem?_eq_some_iff.1 h1).1 (fun e => ?_)]
    · exact h1
    · rw [e, hg] at h1; simp at h1
  · obtain ⟨cv, e, hc⟩ := h3 j hj hjn
    exact ⟨cv, e, hc.turn k hg hg' hs⟩
/-- A cell of the row is written. -/
theorem SpI.set (h : SpI A w wr g n i) (j : Nat) (u : Value) {i' : Nat} (hi : i ≤ i') (hj : ∀ k, i' ≤ k → j ≠ k * 5 + 1) : SpI A w (wr.setCell ⟨g, j, none⟩ u) g n i' := by
  obtain ⟨cur, h1, h2, h3⟩ := h.c
  have k := One.set g j wr u
  refine ⟨h.os, h.tape, h.output, by simp; exact h.size, fun b hb hn => (k.oth b (Nat.lt_of_lt_of_le hb h.size) (fun e => hn (by rw [e]; exact h.hA))).trans (h.kp b hb hn), h.nw, h.hA, _, heap_setCell_same wr g j cur 57 u h1, by simpa using h2, fun q hq hqn => ?_⟩
  obtain ⟨cv, e, hc⟩ := h3 q (by omega) hqn
  refine ⟨cv, ?_, hc.other k h1 (by decide)⟩
  rw [Array.getElem?_setIfInBounds, if_neg (hj q hq)]
  exact e
/-- Categories have grown. -/
theorem SpI.appC (h : SpI A w wr g n i) (ty : Nat) (v : Value) (hv : CsW A wr 17592186044416 v) (ad : Addr) (c : Nat) (ys : List Value) (hl : ys.length = 1) (hnews : ∀ j u, ys[j]? = some u → wr.cell? (ad.add j) = some u) (h1 : ∀ u ∈ ys, u.oneCell' = true) :
    ∃ a' n' c' w', (Builtin.append_ #[55, 55] ty #[v, .slice (some ad) 1 c]).run Try.prog wr = .ok (.slice a' n' c') w' ∧ SpI A w w' g n i := by
  obtain ⟨m, cur, hw⟩ := hv
  obtain ⟨g', cap', cur', w', hr, h2, hA, hO, -, -, h3⟩ := appWS_run Try.underlying55 i3 rfl wr ty 17592186044416 m v cur hw (fun b hb => h.nw b (Nat.le_trans h.size hb)) ad 1 c (by decide) ys (by omega) hnews h1 (by omega) (by omega)
  refine ⟨_, _, _, w', hr, ?_⟩
  rcases h3 with ⟨hb, hg, hs⟩ | rfl
  · exact h.turn3 hO hA hg (h2.blk (b := g') rfl).2 hs
  · exact h.keep ⟨hO.os, hO.tape, hO.output, hO.size, fun b hb => hO.oth b hb (by omega)⟩
/-- As a step of a region. -/
theorem SpI.step_appC {ops : Array Oper} {o : Oper} {a : Act} {K : Act → World → Prop} {Q : Exit → Act → World → Prop} {X : Prop} (h : SpI A w wr g n i) (hgd : o.guard = none) (s x : Operand) (ho : o.op = .call { callee := .builtin .append, args := #[s, x], argTypes := #[55, 55] }) (B0 : Nat) (v : Value) (hv : CsW A wr 17592186044416 v) (hlit : wr.heap[B0]? = some (.cells #[.int .i64 (-8)] 3 (0, 0))) (hs : a.eval s = v) (hx : a.eval x = .slice (some ⟨B0, 0, none⟩) 1 1)
    (hK : ∀ a' n' c' w', SpI A w w' g n i → K (a.put o.dst (.slice a' n' c')) w') :
    if Region.wanted o (yielded ops a.tmps) = true then Oper.wp Try.prog o a wr K Q else X := by
  have hw : Region.wanted o (yielded ops a.tmps) = true := by simp [Region.wanted, hgd]
  rw [if_pos hw]
  obtain ⟨a', n', c', w', hr, h3⟩ := h.appC o.type v hv ⟨B0, 0, none⟩ 1 [.int .i64 (-8)] rfl (by
    intro j u hj
    rw [Addr.add_lit, Nat.zero_add, cell_of_row wr B0 j _ 3 (0, 0) hlit, ← hj]
    simp) (by intro u hu; simp at hu; rw [hu]; rfl)
  unfold Oper.wp execOp
  simp only [ho, resolve, invoke, builtin, Sem.run_bind, Sem.run_pure, Result.andThen_ok, List.map_toArray, List.map_cons, List.map_nil, hs, hx, hr]
  exact hK a' n' c' w' h3
/-- As a step of a walk. -/
theorem SpI.wp_appC {ops : Array Oper} {rest : List Oper} {o : Oper} {a : Act} {Q : Exit → Act → World → Prop} (h : SpI A w wr g n i) (hgd : o.guard = none) (s x : Operand) (ho : o.op = .call { callee := .builtin .append, args := #[s, x], argTypes := #[55, 55] }) (B0 : Nat) (v : Value) (hv : CsW A wr 17592186044416 v) (hlit : wr.heap[B0]? = some (.cells #[.int .i64 (-8)] 3 (0, 0))) (hs : a.eval s = v) (hx : a.eval x = .slice (some ⟨B0, 0, none⟩) 1 1)
    (hK : ∀ a' n' c' w', SpI A w w' g n i → wpList Try.prog ops Q rest (a.put o.dst (.slice a' n' c')) w') :
    wpList Try.prog ops Q (o :: rest) a wr := by
  refine wpList_plain hgd fun K hK' => ?_
  obtain ⟨a', n', c', w', hr, h3⟩ := h.appC o.type v hv ⟨B0, 0, none⟩ 1 [.int .i64 (-8)] rfl (by
    intro j u hj
    rw [Addr.add_lit, Nat.zero_add, cell_of_row wr B0 j _ 3 (0, 0) hlit, ← hj]
    simp) (by intro u hu; simp at hu; rw [hu]; rfl)
  unfold Oper.wp
  simp [execOp, ho, resolve, invoke, builtin, hs, hx, hr, Result.andThen]
  exact hK' _ _ (hK a' n' c' w' h3)
theorem SpI.cell (h : SpI A w wr g n i) {k : Nat} (hk : k < n) (j : Nat) (hj : j < 5) : (∃ u, wr.cell? ⟨g, k * 5 + j, none⟩ = some u) ∧ wr.frozen? ⟨g, k * 5 + j, none⟩ = false := by
  obtain ⟨cur, h1, h2, h3⟩ := h.c
  have hs : k * 5 + j < cur.size := by omega
  exact ⟨⟨cur[k * 5 + j], by rw [cell_of_row wr g _ cur 57 (0, 0) h1]; exact Array.getElem?_eq_getElem hs⟩, frozen_of_row wr g _ cur 57 h1⟩
end
theorem Rw.spI {B : Nat} {w : World} {a : Option Addr} {n c : Nat} {K : List CI} (h : Rw B w (.slice a n c) K) (hn : K.length = n) (h0 : 0 < n) : ∃ g, a = some ⟨g, 0, none⟩ ∧ SpI (fun b => w.heap.size ≤ b ∨ bl (.slice a n c) K b) w w g n 0 := by
  rcases h.row with ⟨h1, h2⟩ | ⟨g, cap, cur, hv, hg, hh, hcap, htk⟩
  · rw [h2] at hn; simp at hn; omega
  · simp only [Value.slice.injEq] at hv
    obtain ⟨rfl, -, -⟩ := hv
    refine ⟨g, rfl, rfl, rfl, rfl, Nat.le_refl _, fun b _ _ => rfl, fun b hb => .inl hb, .inr (.inl rfl), cur, hh, ?_, fun k _ hk => ?_⟩
    · have := congrArg List.length htk
      rw [List.length_take, UC_length] at this
      have q : cur.toList.length = cur.size := Array.length_toList
      rw [q] at this
      omega
    · have hm : K.getD k ct0 ∈ K := by
        have : K.getD k ct0 = K[k] := by simp [List.getD, hn, hk]
        rw [this]; exact List.getElem_mem _
      obtain ⟨z1, z2⟩ := h.cat _ hm
      refine ⟨.slice (K.getD k ct0).2.1 (K.getD k ct0).1.cs.length (K.getD k ct0).2.2, ?_, ?_⟩
      · have e1 : cur.toList[k * 5 + 1]? = (UC K)[k * 5 + 1]? := by rw [← htk, List.getElem?_take, if_pos (by omega)]
        rw [UC_get K k 1 (by omega) (by omega), Array.getElem?_toList] at e1
        rw [e1]; rfl
      · unfold OwnZ at z1
        obtain ⟨c2, hw2, -⟩ := WS.of_own (A := fun b => w.heap.size ≤ b ∨ bl (.slice (some ⟨g, 0, none⟩) n c) K b) z1 (fun b hb => .inr (.inr ⟨_, hm, by rw [blk_any _ _ _ (K.getD k ct0).1.cs.length (K.getD k ct0).2.2]; exact hb⟩)) z2
        exact ⟨_, c2, hw2⟩
end Go.Proofs.Ytaogjiffnebnkaa.Ow
set_option linter.unusedVariables false
set_option linter.unusedSimpArgs false
namespace Go.Proofs.Ytaogjiffnebnkaa.Ow
open Go.RowKit Go.Shelf
attribute [local go_sem] run_store_float
set_option maxRecDepth 100000 in
set_option maxHeartbeats 4000000 in
theorem spoil_some (A : Nat → Prop) (w : World) (g n c : Nat) (hl : n ≤ 1099511627776) (h : SpI A w w g n 0) :
    Calls Try.prog 31 #[.slice (some ⟨g, 0, none⟩) n c] w fun e w' => e = .returned (.tuple #[]) ∧ ∃ i, SpI A w w' g n i := by
  have hInf := fun wx => Inf_any wx
  go_enter Try.func31, Try.ntmps31
  go_wp2_with fail
  go_loopw [2] (fun iv wr => ∃ k : Nat, k ≤ n ∧ iv = .int .i64 k ∧ SpI A w wr g n k) (fun iv _ => n - (intOf iv).toNat)
  case atStart => exact ⟨0, by omega, rfl, h⟩
  case round =>
    clear h
    obtain ⟨k, hk, rfl, hI⟩ := hrel
    by_cases hkl : k < n
    · have hkc : (k : Int) < (n : Int) := by omega
      obtain ⟨cur, hg, hcs, hcv0⟩ := hI.c
      obtain ⟨cv, ecv, hcv⟩ := hcv0 k (Nat.le_refl _) hkl
      clear hcv0
      obtain ⟨m, curC, hw⟩ := hcv
      obtain ⟨ca, cc, rfl, hcg⟩ := hw.shape
      have hml : m ≤ 17592186044416 := hw.le
      have n1 : wr.cell? ⟨g, k * 5 + 1, none⟩ = some (.slice ca m cc) := (cell_of_row wr g (k * 5 + 1) cur 57 (0, 0) hg).trans ecv
      have HC : Hid (cur[k * 5 + 1]? = some (.slice ca m cc)) := ecv
      have HCG : Hid (0 < m → ∃ g, ca = some ⟨g, 0, none⟩) := hcg
      have HS : Hid (wr.heap[g]? = some (.cells cur 57 (0, 0))) := hg
      have HL : Hid (n * 5 ≤ cur.size) := hcs
      clear hw ecv hcg hg hcs
      have hI0 := hI
      clear hI
      go_wp2_with fail
      go_loopw [3] (fun iv wr => ∃ j : Nat, j ≤ m ∧ iv = .int .i64 j ∧ SpI A w wr g n k ∧ Hid (wr.heap[g]? = some (.cells cur 57 (0, 0)))) (fun iv _ => m - (intOf iv).toNat)
      case atStart => exact ⟨0, by omega, rfl, hI0, HS⟩
      case round =>
        clear hI0 n1 HS
        obtain ⟨j, hj, rfl, hI, HS⟩ := hrel
        have n1 : wr.cell? ⟨g, k * 5 + 1, none⟩ = some (.slice ca m cc) := (cell_of_row wr g (k * 5 + 1) cur 57 (0, 0) HS.out).trans HC.out
        obtain ⟨cur', hg', -, hcvI⟩ := hI.c
        obtain rfl : cur' = cur := by have := HS.out; rw [hg'] at this; simpa using this
        obtain ⟨cv, ecv, hcvJ⟩ := hcvI k (Nat.le_refl _) hkl
        clear hcvI
        obtain rfl : cv = .slice ca m cc := by have := HC.out; rw [ecv] at this; simpa using this
        clear ecv hg'
        by_cases hjl : j < m
        · have hjc : (j : Int) < (m : Int) := by omega
          obtain ⟨m', curC, hw⟩ := hcvJ
          obtain ⟨a1, c1, e1, -⟩ := hw.shape
          simp only [Value.slice.injEq] at e1
          obtain ⟨-, rfl, -⟩ := e1
          obtain ⟨gc, rfl⟩ := HCG.out (by omega)
          obtain ⟨u, -, hc, hfz⟩ := hw.at (i := j) (by omega)
          obtain ⟨hAc, hgc⟩ := hw.blk (b := gc) rfl
          have hJ := hI.turn3 (One.set gc j wr (.int .i64 (-7))) hAc hgc (heap_setCell_same wr gc j curC 3 (.int .i64 (-7)) hgc) (by simp)
          have HS' : Hid ((wr.setCell ⟨gc, j, none⟩ (.int .i64 (-7))).heap[g]? = some (.cells cur' 57 (0, 0))) := by
            show _ = _
            rw [neq_set wr gc j _ g (fun e => by have h := HS.out; rw [e, hgc] at h; simp at h)]
            exact HS.out
          clear hgc hw HS
          go_wp2_with fail
          exact ⟨⟨j + 1, by omega, by go_num, hJ, HS'⟩, by simp [intOf]; omega⟩
        · have hjc : ¬ (j : Int) < (m : Int) := by omega
          obtain rfl : m = j := by omega
          have ka : Keep wr (wr.alloc (Obj.cells #[Value.int IntKind.i64 (-8)] 3)) := (Keep.refl wr).alloc _
          have hIa := hI.keep ka
          have hca := CsW.keep hcvJ ka
          have hlit : (wr.alloc (Obj.cells #[Value.int IntKind.i64 (-8)] 3)).heap[wr.heap.size]? = some (Obj.cells #[Value.int IntKind.i64 (-8)] 3 (0, 0)) := heap_alloc_new wr _
          have hgn : g < wr.heap.size := (Array.getElem?_eq_some_iff.1 HS.out).1
          clear hcvJ
          go_wp2_with (first
            | (at_builtin; refine hIa.wp_appC rfl _ _ rfl wr.heap.size _ hca hlit rfl rfl ?_; intro a7 n7 c7 w7 h7; obtain ⟨⟨u7, y7⟩, f7⟩ := h7.cell hkl 1 (by omega); have hJ := h7.set (k * 5 + 1) (.slice a7 n7 c7) (i' := k + 1) (by omega) (fun q hq => by omega); generalize hw8 : w7.setCell ⟨g, k * 5 + 1, none⟩ (.slice a7 n7 c7) = w8 at hJ)
            | (go_at_call 49; refine (hInf _).mono ?_; rintro e w9 ⟨rfl, rfl⟩; obtain ⟨⟨u8, y8⟩, f8⟩ := hJ.cell hkl 0 (by omega); simp only [Nat.add_zero] at y8 f8; have hJ2 := hJ.set (k * 5) (.float .f64 9218868437227405312) (i' := k + 1) (Nat.le_refl _) (fun q hq => by omega); obtain ⟨⟨u9, y9⟩, f9⟩ := hJ2.cell hkl 2 (by omega); have hJ3 := hJ2.set (k * 5 + 2) (.int .i64 (-9)) (i' := k + 1) (Nat.le_refl _) (fun q hq => by omega)))
          exact ⟨⟨k + 1, by omega, by go_num, hJ3⟩, by simp [intOf]; omega⟩
    · have hkc : ¬ (k : Int) < (n : Int) := by omega
      go_wp2_with fail
      try simp only [Exit.inBlock, Exit.then]
      go_end0
      exact ⟨rfl, k, hI⟩
/-- spoil: what does not lie in the cuts stands. -/
theorem spoil_any (B : Nat) (w : World) (v : Value) (K : List CI) (h : Rw B w v K) (hl : K.length ≤ 1099511627776) :
    Calls Try.prog 31 #[v] w fun e w' => e = .returned (.tuple #[]) ∧ Ext (bl v K) w w' := by
  obtain ⟨a, c, rfl, -, -⟩ := h.rd
  by_cases h0 : 0 < K.length
  · obtain ⟨g, rfl, hI⟩ := h.spI rfl h0
    refine (spoil_some _ w g K.length c hl hI).mono ?_
    rintro e w' ⟨rfl, i, hJ⟩
    exact ⟨rfl, hJ.os, hJ.tape, hJ.output, hJ.size, fun b hb hn => hJ.kp b hb (fun q => by rcases q with q | q; omega; exact hn q)⟩
  · obtain ⟨n, hn⟩ : ∃ n, K.length = n := ⟨_, rfl⟩
    rw [hn] at h0 ⊢
    obtain rfl : n = 0 := by omega
    go_enter Try.func31, Try.ntmps31
    go_wp2_with fail
    go_loopw [2] (fun iv wr => iv = .int .i64 0 ∧ wr = w) (fun iv _ => 0)
    case atStart => exact ⟨rfl, rfl⟩
    case round =>
      obtain ⟨rfl, rfl⟩ := hrel
      go_wp2_with fail
      try simp only [Exit.inBlock, Exit.then]
      go_end0
      exact ⟨rfl, Ext.of_keep (Keep.refl _) _⟩
end Go.Proofs.Ytaogjiffnebnkaa.Ow
