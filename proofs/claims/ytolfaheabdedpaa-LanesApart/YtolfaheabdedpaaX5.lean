import Derived.Test.YtolfaheabdedpaaX4
import Derived.Deep.RegionHeld3
set_option linter.unusedVariables false
set_option linter.unusedSimpArgs false
namespace Go.Proofs.Ytolfaheabdedpaa
open Go.RowKit Go.Shelf
theorem Below.of_grown {wr w1 : World} (o : Obj) (h2 : (wr.alloc o).grownBy w1 (some wr.heap.size)) : Keep wr w1 := by
  refine Below.grown ((Keep.refl wr).alloc o) h2 (by simp) ?_
  intro k hk'
  simp only [Option.some.injEq] at hk'
  omega
/-- Numbers as cells. -/
def UF (l : List Nat) : List Value := l.map (fun x => Value.float .f64 x)
theorem UF_length (l : List Nat) : (UF l).length = l.length := by simp [UF]
theorem UF_get (l : List Nat) (j : Nat) (h : j < l.length) : (UF l)[j]? = some (.float .f64 (l.getD j 0)) := by simp [UF, List.getD, h]
theorem UF_one (l : List Nat) : ∀ u ∈ UF l, u.oneCell' = true := by intro u hu; obtain ⟨_, _, rfl⟩ := List.mem_map.1 hu; rfl
/-- A list of numbers with memory of its own. -/
def OwnF (B : Nat) (w : World) (v : Value) (l : List Nat) : Prop := w.ownsRow B 33 1 v l.length (UF l)
theorem OwnF.same {B : Nat} {w w' : World} {v : Value} {l : List Nat} (h : OwnF B w v l) (k : ∀ b, v.ownBlock = some b → w'.heap[b]? = w.heap[b]?) : OwnF B w' v l := by
  refine ⟨h.1, ?_⟩
  rcases h.2 with h2 | ⟨g, cap, cur, hv, hg, hh, r⟩
  · exact .inl h2
  · exact .inr ⟨g, cap, cur, hv, hg, by rw [k g (by rw [hv]; rfl)]; exact hh, r⟩
theorem OwnF.block {B : Nat} {w : World} {v : Value} {l : List Nat} (h : OwnF B w v l) {b : Nat} (hb : v.ownBlock = some b) : B ≤ b ∧ ∃ cur, w.heap[b]? = some (.cells cur 33 (0, 0)) := by
  rcases h.2 with ⟨h1, _⟩ | ⟨g, cap, cur, hv, hg, hh, r⟩
  · rw [h1] at hb; cases hb
  · rw [hv] at hb
    have hb : some g = some b := hb
    simp only [Option.some.injEq] at hb
    subst hb
    exact ⟨hg, cur, hh⟩
theorem OwnF.keep {B : Nat} {w w' : World} {v : Value} {l : List Nat} (h : OwnF B w v l) (k : Keep w w') : OwnF B w' v l :=
  h.same (fun b hb => by obtain ⟨_, cur, hh⟩ := h.block hb; exact k.block b (Array.getElem?_eq_some_iff.1 hh).1)
theorem OwnF.mono {B B' : Nat} {w : World} {v : Value} {l : List Nat} (h : OwnF B w v l) (hB : B' ≤ B) : OwnF B' w v l := by
  refine ⟨h.1, ?_⟩
  rcases h.2 with h2 | ⟨g, cap, cur, hv, hg, r⟩
  · exact .inl h2
  · exact .inr ⟨g, cap, cur, hv, Nat.le_trans hB hg, r⟩
theorem OwnF.nil (B : Nat) (w : World) : OwnF B w (.slice none 0 0) [] := ⟨rfl, .inl ⟨rfl, rfl⟩⟩
theorem OwnF.shape {B : Nat} {w : World} {v : Value} {l : List Nat} (h : OwnF B w v l) : ∃ a c, v = .slice a l.length c ∧ l.length ≤ c ∧ RdF w a l := by
  rcases h.2 with ⟨h1, h2⟩ | ⟨g, cap, cur, hv, hg, hh, h1, h2, h3, h4⟩
  · refine ⟨none, 0, by rw [h1, h2], by omega, ?_⟩
    intro j hj; omega
  · refine ⟨_, cap, hv, h1, ?_⟩
    intro j hj
    refine ⟨g, 0, rfl, ?_⟩
    rw [cell_of_row w g _ cur 33 (0, 0) hh, ← UF_get l j hj, ← h4]
    simp [hj]
theorem i33 : (Try.prog.info? 33).map (fun i => (i.zero, i.size, i.bytes)) = some (some (.float .f64 0), 1, 8) := by kernel_rfl
/-- append([]T{}, l...). -/
theorem wpList_copyZe {wr : World} {ops : Array Oper} {rest : List Oper} {o : Oper} {a : Act} {Q : Exit → Act → World → Prop} (hgd : o.guard = none) (s x : Operand)
    (ho : o.op = .call { callee := .builtin .append, args := #[s, x], argTypes := #[36, 36] }) (l : List Int) (ad : Option Addr) (c : Nat) (g : Nat) (hg : wr.heap.size = g) (hs : a.eval s = .slice (some ⟨g, 0, none⟩) 0 0)
    (hx : a.eval x = .slice ad l.length c) (hr : RdI wr ad l) (hlen : l.length ≤ 17592186044416)
    (hK : ∀ v' w1, OwnZ 3 wr.heap.size w1 v' l → Keep wr w1 → wpList Try.prog ops Q rest (a.put o.dst v') w1) :
    wpList Try.prog ops Q (o :: rest) a (wr.alloc (.cells #[] 3)) := by
  subst hg
  obtain ⟨i0, hi, hz0, hz1, hz2⟩ := info_parts i3
  have hown : OwnZ 3 wr.heap.size (wr.alloc (.cells #[] 3)) (.slice (some ⟨wr.heap.size, 0, none⟩) 0 0) [] := ⟨rfl, .inr ⟨wr.heap.size, 0, #[], rfl, Nat.le_refl _, heap_alloc_new _ _, Nat.le_refl _, by simp [maxLen], rfl, rfl⟩⟩
  have hr' := hr.keep ((Keep.refl wr).alloc (.cells #[] 3))
  rcases ad with _ | ad
  · obtain rfl : l = [] := by
      by_cases h : l = []
      · exact h
      · obtain ⟨b, o, e, -⟩ := hr 0 (List.length_pos_iff.2 h); cases e
    refine wpList_plain hgd fun K hK' => ?_
    have hrun : (Builtin.append_ #[36, 36] o.type #[.slice (some ⟨wr.heap.size, 0, none⟩) 0 0, .slice none 0 c]).run Try.prog (wr.alloc (.cells #[] 3)) = .ok (.slice (some ⟨wr.heap.size, 0, none⟩) 0 0) (wr.alloc (.cells #[] 3)) := by
      go_simp
    unfold Oper.wp
    simp [execOp, ho, resolve, invoke, builtin, hs, hx, hrun, Result.andThen]
    exact hK' _ _ (hK _ _ hown ((Keep.refl wr).alloc _))
  refine wpList_append_own _ hgd s x 36 ho wr.heap.size 3 i0 (.int .i64 0) 1 8 Try.underlying36 hi hz0 hz1 hz2 rfl (by decide) _ _ _ hs hown ad l.length c (UZ l) hx (by simp [UZ]) ?_ (UZ_one l) ?_ ?_ (by simp) ?_
  · intro j u hj
    have hjl : j < l.length := by have := (List.getElem?_eq_some_iff.1 hj).1; simpa [UZ_length] using this
    rw [UZ_get l j hjl] at hj
    obtain ⟨b', o', e, hc⟩ := hr' j hjl
    simp only [Option.some.injEq] at e
    subst e
    rw [Addr.add_lit, hc, hj]
  · simp only [maxLen, List.length_nil]; omega
  · simp only [List.length_nil]; omega
  · intro v' w1 h1 h2 _
    refine hK v' w1 ?_ (Below.of_grown _ h2)
    unfold OwnZ
    simpa [UZ] using h1
/-- append([]T{}, l...). -/
theorem wpList_copyFe {wr : World} {ops : Array Oper} {rest : List Oper} {o : Oper} {a : Act} {Q : Exit → Act → World → Prop} (hgd : o.guard = none) (s x : Operand)
    (ho : o.op = .call { callee := .builtin .append, args := #[s, x], argTypes := #[46, 46] }) (l : List Nat) (ad : Option Addr) (c : Nat) (g : Nat) (hg : wr.heap.size = g) (hs : a.eval s = .slice (some ⟨g, 0, none⟩) 0 0)
    (hx : a.eval x = .slice ad l.length c) (hr : RdF wr ad l) (hlen : l.length ≤ 17592186044416)
    (hK : ∀ v' w1, OwnF wr.heap.size w1 v' l → Keep wr w1 → wpList Try.prog ops Q rest (a.put o.dst v') w1) :
    wpList Try.prog ops Q (o :: rest) a (wr.alloc (.cells #[] 33)) := by
  subst hg
  obtain ⟨i0, hi, hz0, hz1, hz2⟩ := info_parts i33
  have hown : OwnF wr.heap.size (wr.alloc (.cells #[] 33)) (.slice (some ⟨wr.heap.size, 0, none⟩) 0 0) [] := ⟨rfl, .inr ⟨wr.heap.size, 0, #[], rfl, Nat.le_refl _, heap_alloc_new _ _, Nat.le_refl _, by simp [maxLen], rfl, rfl⟩⟩
  have hr' := hr.keep ((Keep.refl wr).alloc (.cells #[] 33))
  rcases ad with _ | ad
  · obtain rfl : l = [] := by
      by_cases h : l = []
      · exact h
      · obtain ⟨b, o, e, -⟩ := hr 0 (List.length_pos_iff.2 h); cases e
    refine wpList_plain hgd fun K hK' => ?_
    have hrun : (Builtin.append_ #[46, 46] o.type #[.slice (some ⟨wr.heap.size, 0, none⟩) 0 0, .slice none 0 c]).run Try.prog (wr.alloc (.cells #[] 33)) = .ok (.slice (some ⟨wr.heap.size, 0, none⟩) 0 0) (wr.alloc (.cells #[] 33)) := by
      go_simp
    unfold Oper.wp
    simp [execOp, ho, resolve, invoke, builtin, hs, hx, hrun, Result.andThen]
    exact hK' _ _ (hK _ _ hown ((Keep.refl wr).alloc _))
  refine wpList_append_own _ hgd s x 46 ho wr.heap.size 33 i0 (.float .f64 0) 1 8 Try.underlying46 hi hz0 hz1 hz2 rfl (by decide) _ _ _ hs hown ad l.length c (UF l) hx (by simp [UF]) ?_ (UF_one l) ?_ ?_ (by simp) ?_
  · intro j u hj
    have hjl : j < l.length := by have := (List.getElem?_eq_some_iff.1 hj).1; simpa [UF_length] using this
    rw [UF_get l j hjl] at hj
    obtain ⟨b', o', e, hc⟩ := hr' j hjl
    simp only [Option.some.injEq] at e
    subst e
    rw [Addr.add_lit, hc, hj]
  · simp only [maxLen, List.length_nil]; omega
  · simp only [List.length_nil]; omega
  · intro v' w1 h1 h2 _
    refine hK v' w1 ?_ (Below.of_grown _ h2)
    unfold OwnF
    simpa [UF] using h1
end Go.Proofs.Ytolfaheabdedpaa
