import Derived.Test.YtjiflgdbgpegiaaSD3
import Derived.Test.YtjiflgdbgpegiaaSE1
import Derived.Laws.Append
set_option linter.unusedVariables false
set_option linter.unusedSimpArgs false
namespace Go.Proofs.Ytjiflgdbgpegiaa
open Go.RowKit Go.Shelf
theorem Keep.drew' {a b : World} (h : Keep a b) : Keep a b.drew := h.trans (Keep.drewN b 1)
/-- append of one number to a row that is full: new memory. -/
theorem wpList_full (w : World) (G n x : Nat) (L : List Nat) (hL : L.length = n) (hA : Arr w G L) {ops : Array Oper} {rest : List Oper} {o : Oper} {a : Act} {Q : Exit → Act → World → Prop} (hgd : o.guard = none) (s y : Operand)
    (hop : o.op = .call { callee := .builtin .append, args := #[s, y], argTypes := #[62, 62] }) (hs : a.eval s = .slice (some ⟨G, 0, none⟩) n n) (c7 : Nat) (hy : a.eval y = .slice (some ⟨w.heap.size, 0, none⟩) 1 c7) (hn : n ≤ 1099511627776)
    (hK : ∀ g c w', Keep w w' → w.heap.size ≤ g → Arr w' g (L ++ [x]) → wpList Try.prog ops Q rest (a.put o.dst (.slice (some ⟨g, 0, none⟩) (n + 1) c)) w') :
    wpList Try.prog ops Q (o :: rest) a (w.alloc (Obj.cells #[.float .f64 x] 23)) := by
  refine wpList_plain hgd fun K hK' => ?_
  obtain ⟨i0, hi, hz0, hz1, hz2⟩ := info_parts i23
  have k1 : Keep w (w.alloc (Obj.cells #[.float .f64 x] 23)) := (Keep.refl w).alloc _
  have hr := run_append_grow (P := Try.prog) (w.alloc (Obj.cells #[.float .f64 x] 23)) 62 o.type 23 i0 _ Try.underlying62 hi hz0 ⟨G, 0, none⟩ n n (UF L) (by rw [hz1, UF_length, hL, Nat.mul_one]) (by
    intro j u hj
    have hjl : j < L.length := by have := (List.getElem?_eq_some_iff.1 hj).1; simpa [UF_length] using this
    rw [UF_get L j hjl] at hj
    rw [Addr.add_lit, Nat.zero_add, k1.cell (hA.cell hjl), hj]) ⟨w.heap.size, 0, none⟩ 1 c7 (UF [x]) (by rw [hz1]; rfl) (newsF w x) (by omega) (by omega) (by
    rw [hz2]
    exact growslice_fits (by omega) (by omega))
  obtain ⟨g, c, w2, hr2, kp, hg, hA2⟩ : ∃ g c w2, (Builtin.append_ #[62, 62] o.type #[.slice (some ⟨G, 0, none⟩) n n, .slice (some ⟨w.heap.size, 0, none⟩) 1 c7]).run Try.prog (w.alloc (Obj.cells #[.float .f64 x] 23)) = .ok (.slice (some ⟨g, 0, none⟩) (n + 1) c) w2 ∧ Keep w w2 ∧ w.heap.size ≤ g ∧ Arr w2 g (L ++ [x]) := by
    refine ⟨_, _, _, hr, (k1.drew').alloc _, by rw [World.size_alloc]; omega, ?_⟩
    have h1 := heap_alloc_new (w.alloc (Obj.cells #[.float .f64 x] 23)).drew (Obj.cells ((UF L).toArray ++ (UF [x]).toArray ++ Builtin.zeroCells (Value.float .f64 0).cells (grownCap (w.alloc (Obj.cells #[.float .f64 x] 23)) (n + 1) n 23 - (n + 1))) 23)
    rw [World.size_drew] at h1
    refine ⟨_, h1, ?_⟩
    have e : (L ++ [x]).length = ((UF L).toArray ++ (UF [x]).toArray).toList.length := by simp [UF]
    rw [Array.toList_append, e, List.take_left]
    simp [UF]
  unfold Oper.wp
  simp [execOp, hop, resolve, invoke, builtin, hs, hy, hr2, Result.andThen]
  exact hK' _ _ (hK g c w2 kp hg hA2)
end Go.Proofs.Ytjiflgdbgpegiaa
