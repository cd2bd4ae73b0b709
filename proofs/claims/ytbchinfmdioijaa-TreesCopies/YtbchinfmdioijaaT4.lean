import Derived.Test.YtbchinfmdioijaaT2
import Derived.Test.YtbchinfmdioijaaRT
import Derived.Shelf.Abstract
import Derived.OwnWalkIn
import Derived.TacticsInMore
import Derived.LoopNIn
import Derived.LoopIn
import Derived.Sort.LoopGhostIn
set_option linter.unusedVariables false
set_option linter.unusedSimpArgs false
namespace Go.Proofs.Ytbchinfmdioijaa
open Go.RowKit Go.Shelf
attribute [local go_sem] Oper.semAt_some
/-- Naturals as cells. -/
def UI (l : List Nat) : List Value := l.map (fun x => Value.int .i64 (x : Nat))
theorem UI_length (l : List Nat) : (UI l).length = l.length := by simp [UI]
theorem UI_get (l : List Nat) (j : Nat) (h : j < l.length) : (UI l)[j]? = some (.int .i64 (l.getD j 0 : Nat)) := by simp [UI, List.getD, h]
/-- Truths as cells. -/
def UB (l : List Bool) : List Value := l.map (fun x => Value.bool x)
theorem UB_get (l : List Bool) (j : Nat) (h : j < l.length) : (UB l)[j]? = some (.bool (l.getD j false)) := by simp [UB, List.getD, h]
def RowB (w : World) (g : Nat) (l : List Bool) : Prop := w.heap[g]? = some (.cells (UB l).toArray 4 (0, 0))
theorem RowB.lt {w : World} {g : Nat} {l : List Bool} (h : RowB w g l) : g < w.heap.size := (Array.getElem?_eq_some_iff.1 h).1
theorem RowB.cell {w : World} {g : Nat} {l : List Bool} (h : RowB w g l) (j : Nat) (hj : j < l.length) : w.cell? ⟨g, j, none⟩ = some (.bool (l.getD j false)) := by
  rw [cell_of_row w g j _ 4 (0, 0) h]; simpa using UB_get l j hj
theorem RowB.frozen {w : World} {g : Nat} {l : List Bool} (h : RowB w g l) (j : Nat) : w.frozen? ⟨g, j, none⟩ = false := frozen_of_row w g j _ 4 h
theorem RowB.set {w : World} {g : Nat} {l : List Bool} (h : RowB w g l) (j : Nat) (x : Bool) : RowB (w.setCell ⟨g, j, none⟩ (.bool x)) g (l.set j x) := by
  have := heap_setCell_same w g j _ 4 (.bool x) h
  unfold RowB
  rw [this]
  simp [UB, List.map_set]
theorem i4 : (Try.prog.info? 4).map (fun i => (i.zero, i.size, i.bytes)) = some (some (.bool false), 1, 1) := by kernel_rfl
theorem i3 : (Try.prog.info? 3).map (fun i => (i.zero, i.size, i.bytes)) = some (some (.int .i64 0), 1, 8) := by kernel_rfl
theorem made4 (n : Nat) : madeCells (Value.bool false).cells n = (UB (List.replicate n false)).toArray := by
  have := toList_madeCells_one (.bool false) n
  rw [← Array.toList_inj]
  simp only [UB, List.map_replicate]
  exact this
theorem made3 (n : Nat) : madeCells (Value.int .i64 0).cells n = (UI (List.replicate n 0)).toArray := by
  have := toList_madeCells_one (.int .i64 0) n
  rw [← Array.toList_inj]
  simp only [UI, List.map_replicate]
  exact this
/-- make([]bool, n). -/
theorem wpListIn_makeB {F : Fence} {m : Nat} (w : World) {ops : Array Oper} {rest : List Oper} {o : Oper} {a : Act} {Q : Exit → Act → World → Prop} (hg : o.guard = none) (l c : Operand) (hop : o.op = Op.makeSlice 72 l c) (kl kc : IntKind) (X C : Int) (n : Nat) (hl : a.eval l = .int kl X) (hc : a.eval c = .int kc C) (hL : X = (n : Int)) (hC : C = (n : Int)) (hn : n ≤ 17592186044416)
    (hK : wpListIn F m Try.prog ops Q rest (a.put o.dst (.slice (some ⟨w.heap.size, 0, none⟩) n n)) (w.alloc (.cells (UB (List.replicate n false)).toArray 4))) :
    wpListIn F m Try.prog ops Q (o :: rest) a w := by
  refine wpListIn_plain hg fun K hK' => ?_
  obtain ⟨i, hi, hz0, hz1, hz2⟩ := info_parts i4
  have hr := run_make (P := Try.prog) w 72 4 i _ Try.underlying72 hi hz0 kl kc n n (by omega) (by omega) (by rw [hz2]; omega) (by omega)
  subst hL
  subst hC
  rw [hz1] at hr
  simp only [Int.toNat_natCast, Nat.mul_one, made4] at hr
  unfold Oper.wpIn
  refine ⟨?_, ?_⟩
  · simp [Oper.about, hop]
  · rw [Oper.semAt_plain F _ _ (by rw [hop]; intro c hc'; cases hc')]
    simp [execOp, hop, hl, hc, hr, Result.andThen]
    exact hK' _ _ hK
/-- A list of naturals with memory of its own. -/
def OwnI (w : World) (v : Value) (l : List Nat) : Prop := w.ownsRow 0 3 1 v l.length (UI l)
theorem OwnI.same {w w' : World} {v : Value} {l : List Nat} (h : OwnI w v l) (k : ∀ b, v.ownBlock = some b → w'.heap[b]? = w.heap[b]?) : OwnI w' v l := by
  refine ⟨h.1, ?_⟩
  rcases h.2 with h2 | ⟨g, cap, cur, hv, hg, hh, r⟩
  · exact .inl h2
  · exact .inr ⟨g, cap, cur, hv, hg, by rw [k g (by rw [hv]; rfl)]; exact hh, r⟩
theorem OwnI.block {w : World} {v : Value} {l : List Nat} (h : OwnI w v l) {b : Nat} (hb : v.ownBlock = some b) : ∃ cur, w.heap[b]? = some (.cells cur 3 (0, 0)) := by
  rcases h.2 with ⟨h1, _⟩ | ⟨g, cap, cur, hv, hg, hh, r⟩
  · rw [h1] at hb; cases hb
  · rw [hv] at hb
    have hb : some g = some b := hb
    simp only [Option.some.injEq] at hb
    subst hb
    exact ⟨cur, hh⟩
theorem OwnI.nil (w : World) : OwnI w (.slice none 0 0) [] := ⟨rfl, .inl ⟨rfl, rfl⟩⟩
theorem OwnI.cells {w : World} {v : Value} {l : List Nat} (h : OwnI w v l) (h0 : 0 < l.length) : ∃ g cap, v = .slice (some ⟨g, 0, none⟩) l.length cap ∧ l.length ≤ cap ∧ g < w.heap.size ∧ ∀ j, j < l.length → w.cell? ⟨g, j, none⟩ = some (.int .i64 (l.getD j 0 : Nat)) := by
  rcases h.2 with ⟨h1, h2⟩ | ⟨g, cap, cur, hv, hg, hh, h1, h2, h3, h4⟩
  · omega
  · refine ⟨g, cap, hv, h1, (Array.getElem?_eq_some_iff.1 hh).1, ?_⟩
    intro j hj
    rw [cell_of_row w g j cur 3 (0, 0) hh, ← UI_get l j hj, ← h4]
    simp [hj]
theorem OwnI.shape {w : World} {v : Value} {l : List Nat} (h : OwnI w v l) : ∃ a c, v = .slice a l.length c ∧ l.length ≤ c := by
  rcases h.2 with ⟨h1, h2⟩ | ⟨g, cap, cur, hv, hg, hh, h1, h2, h3, h4⟩
  · exact ⟨none, 0, by rw [h1, h2], by omega⟩
  · exact ⟨_, cap, hv, h1⟩
/-- The last one taken off. -/
theorem OwnI.pop {w : World} {g cap : Nat} {l : List Nat} {x : Nat} (h : OwnI w (.slice (some ⟨g, 0, none⟩) (l ++ [x]).length cap) (l ++ [x])) : OwnI w (.slice (some ⟨g, 0, none⟩) l.length cap) l := by
  rcases h.2 with ⟨h1, h2⟩ | ⟨g', cap', cur, hv, hg, hh, h1, h2, h3, h4⟩
  · cases h1
  · simp only [Value.slice.injEq, Option.some.injEq, Addr.mk.injEq, and_true, true_and] at hv
    obtain ⟨rfl, rfl⟩ := hv
    refine ⟨by simp [UI], .inr ⟨g, cap, cur, rfl, hg, hh, by simp at h1; omega, h2, h3, ?_⟩⟩
    have := congrArg (List.take l.length) h4
    rw [List.take_take, Nat.mul_one, Nat.min_eq_left (by simp)] at this
    rw [Nat.mul_one, this]
    simp [UI]
/-- What append leaves: the same block, or a new one. -/
theorem appI_sep (w : World) (ty : Nat) (v : Value) (l ys : List Nat) (hown : OwnI w v l) (ad : Addr) (c : Nat) (hm : 0 < ys.length) (hnews : ∀ j u, (UI ys)[j]? = some u → w.cell? (ad.add j) = some u) (hlen : l.length + ys.length ≤ 17592186044416) :
    ∃ v' w', (Builtin.append_ #[29, 29] ty #[v, .slice (some ad) ys.length c]).run Try.prog w = .ok v' w' ∧ OwnI w' v' (l ++ ys) ∧ w.grownBy w' v.ownBlock ∧ (v'.ownBlock = v.ownBlock ∨ v'.ownBlock = some w.heap.size) := by
  obtain ⟨i0, hi, hz0, hz1, hz2⟩ := info_parts i3
  have h1 : ∀ u ∈ UI ys, u.oneCell' = true := by intro u hu; obtain ⟨_, _, rfl⟩ := List.mem_map.1 hu; rfl
  have hl : (UI ys).length = ys.length * 1 := by simp [UI]
  obtain ⟨v', w', hr, h2, h3, -⟩ := run_append_own (P := Try.prog) w 0 29 ty 3 i0 (.int .i64 0) 1 8 Try.underlying29 hi hz0 hz1 hz2 rfl (by decide) v _ _ hown ad ys.length c (UI ys) hl hnews h1 (by simp only [maxLen]; omega) (by omega) (by omega)
  refine ⟨v', w', hr, ?_, h3, ?_⟩
  · unfold OwnI; rw [List.length_append]; simpa [UI] using h2
  rcases hown.2 with ⟨rfl, hn⟩ | ⟨g, cap, cur, rfl, hbg, hg, hnc, hcm, hcs, htake⟩
  · have e := run_append_nil (P := Try.prog) w 29 ty 3 i0 _ Try.underlying29 hi hz0 ad ys.length c (UI ys) (by rw [hz1]; exact hl) hnews hm (by omega) (by rw [hz2]; omega)
    rw [hr] at e
    simp only [Result.ok.injEq] at e
    rw [e.1]
    exact .inr rfl
  · by_cases hroom : l.length + ys.length ≤ cap
    · have e := run_append_room (P := Try.prog) w 29 ty 3 i0 Try.underlying29 hi g l.length cap cur hg ad ys.length c (UI ys) (by rw [hz1]; exact hl) hnews h1 hroom (by rw [hz1, UI_length]; omega)
      rw [hr] at e
      simp only [Result.ok.injEq] at e
      rw [e.1]
      exact .inl rfl
    · have holds : ∀ j u, (UI l)[j]? = some u → w.cell? ((⟨g, 0, none⟩ : Addr).add j) = some u := World.ownsRow.cells (v := .slice (some ⟨g, 0, none⟩) l.length cap) hown (g := g) rfl
      have e := run_append_grow (P := Try.prog) w 29 ty 3 i0 _ Try.underlying29 hi hz0 ⟨g, 0, none⟩ l.length cap (UI l) (by rw [hz1, UI_length]; omega) holds ad ys.length c (UI ys) (by rw [hz1]; exact hl) hnews (by omega) (by omega) (growslice_fits (by omega) (by rw [hz2]; omega))
      rw [hr] at e
      simp only [Result.ok.injEq] at e
      rw [e.1]
      exact .inr rfl
/-- append(l, ys...). -/
theorem wpListIn_appI {F : Fence} {m : Nat} (w : World) {ops : Array Oper} {rest : List Oper} {o : Oper} {a : Act} {Q : Exit → Act → World → Prop} (hgd : o.guard = none) (s x : Operand)
    (hop : o.op = .call { callee := .builtin .append, args := #[s, x], argTypes := #[29, 29] }) (l ys : List Nat) (v : Value) (hs : a.eval s = v) (hown : OwnI w v l) (ad : Addr) (k c : Nat) (hx : a.eval x = .slice (some ad) k c) (hk : k = ys.length) (hm : 0 < ys.length)
    (hnews : ∀ j u, (UI ys)[j]? = some u → w.cell? (ad.add j) = some u) (hlen : l.length + ys.length ≤ 17592186044416)
    (hK : ∀ v' w', OwnI w' v' (l ++ ys) → w.grownBy w' v.ownBlock → (v'.ownBlock = v.ownBlock ∨ v'.ownBlock = some w.heap.size) → wpListIn F m Try.prog ops Q rest (a.put o.dst v') w') :
    wpListIn F m Try.prog ops Q (o :: rest) a w := by
  subst hk
  refine wpListIn_plain hgd fun K hK' => ?_
  obtain ⟨v', w', hrun, r1, r2, r3⟩ := appI_sep w o.type v l ys hown ad c hm hnews hlen
  unfold Oper.wpIn
  refine ⟨?_, ?_⟩
  · simp [Oper.about, hop, resolve, Target.leads, Sem.run_pure]
  · rw [Oper.semAt_plain F _ _ (by rw [hop]; intro c hc'; cases hc')]
    simp [execOp, hop, resolve, invoke, builtin, hs, hx, hrun, Result.andThen]
    exact hK' _ _ (hK v' w' r1 r2 r3)
end Go.Proofs.Ytbchinfmdioijaa
