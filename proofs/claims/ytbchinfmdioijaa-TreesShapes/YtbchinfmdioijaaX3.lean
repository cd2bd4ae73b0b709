import Derived.Test.YtbchinfmdioijaaX2
set_option linter.unusedVariables false
set_option linter.unusedSimpArgs false
namespace Go.Proofs.Ytbchinfmdioijaa
open Go.RowKit Go.Shelf
/-- Whole numbers as cells. -/
def UZ (l : List Int) : List Value := l.map (fun x => Value.int .i64 x)
theorem UZ_length (l : List Int) : (UZ l).length = l.length := by simp [UZ]
theorem UZ_get (l : List Int) (j : Nat) (h : j < l.length) : (UZ l)[j]? = some (.int .i64 (l.getD j 0)) := by simp [UZ, List.getD, h]
theorem UZ_one (l : List Int) : ∀ u ∈ UZ l, u.oneCell' = true := by intro u hu; obtain ⟨_, _, rfl⟩ := List.mem_map.1 hu; rfl
theorem i2 : (Try.prog.info? 2).map (fun i => (i.zero, i.size, i.bytes)) = some (some (.int .i64 0), 1, 8) := by kernel_rfl
/-- A list of whole numbers with memory of its own. -/
def OwnZ (E B : Nat) (w : World) (v : Value) (l : List Int) : Prop := w.ownsRow B E 1 v l.length (UZ l)
theorem OwnZ.same {E B : Nat} {w w' : World} {v : Value} {l : List Int} (h : OwnZ E B w v l) (k : ∀ b, v.ownBlock = some b → w'.heap[b]? = w.heap[b]?) : OwnZ E B w' v l := by
  refine ⟨h.1, ?_⟩
  rcases h.2 with h2 | ⟨g, cap, cur, hv, hg, hh, r⟩
  · exact .inl h2
  · exact .inr ⟨g, cap, cur, hv, hg, by rw [k g (by rw [hv]; rfl)]; exact hh, r⟩
theorem OwnZ.block {E B : Nat} {w : World} {v : Value} {l : List Int} (h : OwnZ E B w v l) {b : Nat} (hb : v.ownBlock = some b) : B ≤ b ∧ ∃ cur, w.heap[b]? = some (.cells cur E (0, 0)) := by
  rcases h.2 with ⟨h1, _⟩ | ⟨g, cap, cur, hv, hg, hh, r⟩
  · rw [h1] at hb; cases hb
  · rw [hv] at hb
    have hb : some g = some b := hb
    simp only [Option.some.injEq] at hb
    subst hb
    exact ⟨hg, cur, hh⟩
theorem OwnZ.keep {E B : Nat} {w w' : World} {v : Value} {l : List Int} (h : OwnZ E B w v l) (k : Keep w w') : OwnZ E B w' v l :=
  h.same (fun b hb => by obtain ⟨_, cur, hh⟩ := h.block hb; exact k.block b (Array.getElem?_eq_some_iff.1 hh).1)
theorem OwnZ.mono {E B B' : Nat} {w : World} {v : Value} {l : List Int} (h : OwnZ E B w v l) (hB : B' ≤ B) : OwnZ E B' w v l := by
  refine ⟨h.1, ?_⟩
  rcases h.2 with h2 | ⟨g, cap, cur, hv, hg, r⟩
  · exact .inl h2
  · exact .inr ⟨g, cap, cur, hv, by omega, r⟩
theorem OwnZ.nil (E B : Nat) (w : World) : OwnZ E B w (.slice none 0 0) [] := ⟨rfl, .inl ⟨rfl, rfl⟩⟩
theorem OwnZ.shape {E B : Nat} {w : World} {v : Value} {l : List Int} (h : OwnZ E B w v l) : ∃ a c, v = .slice a l.length c ∧ l.length ≤ c ∧ RdI w a l := by
  rcases h.2 with ⟨h1, h2⟩ | ⟨g, cap, cur, hv, hg, hh, h1, h2, h3, h4⟩
  · exact ⟨none, 0, by rw [h1, h2], by omega, fun j hj => by omega⟩
  · refine ⟨some ⟨g, 0, none⟩, cap, hv, h1, ?_⟩
    intro j hj
    refine ⟨g, 0, rfl, ?_⟩
    rw [Nat.zero_add, cell_of_row w g j cur E (0, 0) hh, ← UZ_get l j hj, ← h4]
    simp [hj]
/-- A cell written over. -/
theorem OwnZ.set {E B : Nat} {w : World} {g c : Nat} {l : List Int} (h : OwnZ E B w (.slice (some ⟨g, 0, none⟩) l.length c) l) (j : Nat) (hj : j < l.length) (x : Int) : OwnZ E B (w.setCell ⟨g, j, none⟩ (.int .i64 x)) (.slice (some ⟨g, 0, none⟩) l.length c) (l.set j x) ∧ w.frozen? ⟨g, j, none⟩ = false := by
  rcases h.2 with ⟨h1, h2⟩ | ⟨g', cap, cur, hv, hg, hh, h1, h2, h3, h4⟩
  · cases h1
  · simp only [Value.slice.injEq, Option.some.injEq, Addr.mk.injEq, and_true, true_and] at hv
    obtain ⟨rfl, rfl⟩ := hv
    refine ⟨⟨by simp [UZ], .inr ⟨g, c, cur.setIfInBounds j (.int .i64 x), by simp, hg, heap_setCell_same w g j cur E _ hh, by simpa using h1, h2, by simpa using h3, ?_⟩⟩, frozen_of_row w g j cur E hh⟩
    rw [Array.toList_setIfInBounds]
    simp only [List.length_set, Nat.mul_one] at h4 ⊢
    rw [List.take_set, h4]
    simp [UZ, List.map_set]
/-- append(nil, l...). -/
theorem wpList_copyZ {w : World} {ops : Array Oper} {rest : List Oper} {o : Oper} {a : Act} {Q : Exit → Act → World → Prop} (hgd : o.guard = none) (s x : Operand)
    (ho : o.op = .call { callee := .builtin .append, args := #[s, x], argTypes := #[49, 49] }) (l : List Int) (ad : Addr) (c : Nat) (hs : a.eval s = .slice none 0 0)
    (hx : a.eval x = .slice (some ad) l.length c) (hr : RdI w (some ad) l) (hlen : l.length ≤ 17592186044416)
    (hK : ∀ v w1, OwnZ 2 w.heap.size w1 v l → Keep w w1 → wpList Try.prog ops Q rest (a.put o.dst v) w1) :
    wpList Try.prog ops Q (o :: rest) a w := by
  obtain ⟨i0, hi, hz0, hz1, hz2⟩ := info_parts i2
  refine wpList_append_own _ hgd s x 49 ho w.heap.size 2 i0 (.int .i64 0) 1 8 Try.underlying49 hi hz0 hz1 hz2 rfl (by decide) _ _ _ hs (OwnZ.nil 2 w.heap.size w) ad l.length c (UZ l) hx (by simp [UZ]) ?_ (UZ_one l) ?_ ?_ ?_ ?_
  · intro j u hj
    have hjl : j < l.length := by have := (List.getElem?_eq_some_iff.1 hj).1; simpa [UZ_length] using this
    rw [UZ_get l j hjl] at hj
    obtain ⟨b', o', e, hc⟩ := hr j hjl
    simp only [Option.some.injEq] at e
    subst e
    rw [Addr.add_lit, hc, hj]
  · simp only [maxLen, List.length_nil]; omega
  · simp only [List.length_nil]; omega
  · exact Nat.le_refl _
  · intro v' w1 h1 h2 _
    refine hK v' w1 ?_ ?_
    · unfold OwnZ; simpa [UZ] using h1
    · refine Below.grown (Keep.refl w) h2 (Nat.le_refl _) ?_
      intro k hk'
      cases hk'
set_option maxRecDepth 100000 in
theorem copyZ_any (a : Option Addr) (c : Nat) (l : List Int) (w : World) (hl : l.length ≤ 17592186044416) (hlc : l.length ≤ c) (hr : RdI w a l) :
    Calls Try.prog 61 #[.slice a l.length c] w fun e w' => ∃ v, e = .returned v ∧ OwnZ 2 w.heap.size w' v l ∧ Keep w w' := by
  rcases a with _ | ad
  · obtain rfl : l = [] := by
      by_cases h : l = []
      · exact h
      · obtain ⟨b, o, e, -⟩ := hr 0 (List.length_pos_iff.2 h); cases e
    go_enter Try.func61, Try.ntmps61
    go_wp2_with fail
    go_ret
    exact ⟨_, rfl, OwnZ.nil _ _ _, Keep.refl _⟩
  · go_enter Try.func61, Try.ntmps61
    go_wp2_with (at_builtin; refine wpList_copyZ rfl _ _ rfl l ad c ?_ ?_ hr hl ?_; rotate_left 2; intro v w1 h1 k1)
    go_ret
    exact ⟨_, rfl, h1, k1⟩
    all_goals rfl
/-- append(nil, l...). -/
theorem wpList_copyN {w : World} {ops : Array Oper} {rest : List Oper} {o : Oper} {a : Act} {Q : Exit → Act → World → Prop} (hgd : o.guard = none) (s x : Operand)
    (ho : o.op = .call { callee := .builtin .append, args := #[s, x], argTypes := #[29, 29] }) (l : List Int) (ad : Addr) (c : Nat) (hs : a.eval s = .slice none 0 0)
    (hx : a.eval x = .slice (some ad) l.length c) (hr : RdI w (some ad) l) (hlen : l.length ≤ 17592186044416)
    (hK : ∀ v w1, OwnZ 3 w.heap.size w1 v l → Keep w w1 → wpList Try.prog ops Q rest (a.put o.dst v) w1) :
    wpList Try.prog ops Q (o :: rest) a w := by
  obtain ⟨i0, hi, hz0, hz1, hz2⟩ := info_parts i3
  refine wpList_append_own _ hgd s x 29 ho w.heap.size 3 i0 (.int .i64 0) 1 8 Try.underlying29 hi hz0 hz1 hz2 rfl (by decide) _ _ _ hs (OwnZ.nil 3 w.heap.size w) ad l.length c (UZ l) hx (by simp [UZ]) ?_ (UZ_one l) ?_ ?_ ?_ ?_
  · intro j u hj
    have hjl : j < l.length := by have := (List.getElem?_eq_some_iff.1 hj).1; simpa [UZ_length] using this
    rw [UZ_get l j hjl] at hj
    obtain ⟨b', o', e, hc⟩ := hr j hjl
    simp only [Option.some.injEq] at e
    subst e
    rw [Addr.add_lit, hc, hj]
  · simp only [maxLen, List.length_nil]; omega
  · simp only [List.length_nil]; omega
  · exact Nat.le_refl _
  · intro v' w1 h1 h2 _
    refine hK v' w1 ?_ ?_
    · unfold OwnZ; simpa [UZ] using h1
    · refine Below.grown (Keep.refl w) h2 (Nat.le_refl _) ?_
      intro k hk'
      cases hk'
set_option maxRecDepth 100000 in
theorem copyN_any (a : Option Addr) (c : Nat) (l : List Int) (w : World) (hl : l.length ≤ 17592186044416) (hlc : l.length ≤ c) (hr : RdI w a l) :
    Calls Try.prog 83 #[.slice a l.length c] w fun e w' => ∃ v, e = .returned v ∧ OwnZ 3 w.heap.size w' v l ∧ Keep w w' := by
  rcases a with _ | ad
  · obtain rfl : l = [] := by
      by_cases h : l = []
      · exact h
      · obtain ⟨b, o, e, -⟩ := hr 0 (List.length_pos_iff.2 h); cases e
    go_enter Try.func83, Try.ntmps83
    go_wp2_with fail
    go_ret
    exact ⟨_, rfl, OwnZ.nil _ _ _, Keep.refl _⟩
  · go_enter Try.func83, Try.ntmps83
    go_wp2_with (at_builtin; refine wpList_copyN rfl _ _ rfl l ad c ?_ ?_ hr hl ?_; rotate_left 2; intro v w1 h1 k1)
    go_ret
    exact ⟨_, rfl, h1, k1⟩
    all_goals rfl
end Go.Proofs.Ytbchinfmdioijaa
