import Derived.Test.YtonfjmibnnioiaaDoorZ2
import Derived.Deep.RegionLaw
set_option linter.unusedVariables false
set_option linter.unusedSimpArgs false
namespace Go.Proofs.YtonfjmibnnioiaaDoor
open Go.RowKit Go.Shelf
theorem bc_one (l : List UInt8) : ∀ u ∈ Lib.byteCells l, u.oneCell' = true := by
  intro u hu
  simp only [Lib.byteCells, List.mem_map] at hu
  obtain ⟨b, _, rfl⟩ := hu
  rfl
/-- append of some bytes to bytes of one's own. -/
theorem wpList_appB (B : Nat) (w : World) {ops : Array Oper} {rest : List Oper} {o : Oper} {a : Act} {Q : Exit → Act → World → Prop} (hgd : o.guard = none) (s x : Operand)
    (hop : o.op = .call { callee := .builtin .append, args := #[s, x], argTypes := #[58, 58] }) (t m : List UInt8) (v : Value) (hs : a.eval s = v) (hown : OwnB B v t w) (hB : B ≤ w.heap.size) (ad : Addr) (c : Nat) (hx : a.eval x = .slice (some ad) m.length c)
    (hnews : ∀ j u, (Lib.byteCells m)[j]? = some u → w.cell? (ad.add j) = some u) (hn : t.length + m.length ≤ 1099511627776)
    (hK : ∀ v' w', OwnB B v' (t ++ m) w' → w.grownBy w' v.ownBlock → wpList Tryd.prog ops Q rest (a.put o.dst v') w') :
    wpList Tryd.prog ops Q (o :: rest) a w := by
  refine wpList_plain hgd fun K hK' => ?_
  obtain ⟨i0, hi, hz0, hz1, hz2⟩ := info_parts i5
  obtain ⟨v', w', hr, h2, h3, -⟩ := run_append_own (P := Tryd.prog) w B 58 o.type 5 i0 _ 1 1 Tryd.underlying58 hi hz0 hz1 hz2 (by kernel_rfl) (by decide) v _ _ hown ad m.length c (Lib.byteCells m) (by rw [len_bc, Nat.mul_one]) hnews (bc_one m) (by simp only [maxLen]; omega) (by omega) hB
  unfold Oper.wp
  simp [execOp, hop, resolve, invoke, builtin, hs, hx, hr, Result.andThen]
  refine hK' _ _ (hK v' w' ?_ h3)
  show World.ownsRow _ _ _ _ _ _ _
  rw [bc_app, List.length_append]; exact h2
theorem step_appB (B : Nat) {W : World} {ops : Array Oper} {o : Oper} {a : Act} {K : Act → World → Prop} {Q : Exit → Act → World → Prop} {X : Prop} (hgd : o.guard = none) (s x : Operand)
    (ho : o.op = .call { callee := .builtin .append, args := #[s, x], argTypes := #[58, 58] }) (t m : List UInt8) (v : Value) (hown : OwnB B v t W) (hB : B ≤ W.heap.size) (hn : t.length + m.length ≤ 1099511627776) (ad : Addr) (c n : Nat) (hnm : n = m.length) (hnews : ∀ j u, (Lib.byteCells m)[j]? = some u → W.cell? (ad.add j) = some u)
    (hs : a.eval s = v) (hx : a.eval x = .slice (some ad) n c)
    (hK : ∀ v' w', OwnB B v' (t ++ m) w' → W.grownBy w' v.ownBlock → K (a.put o.dst v') w') :
    if Region.wanted o (yielded ops a.tmps) = true then Oper.wp Tryd.prog o a W K Q else X := by
  have hw : Region.wanted o (yielded ops a.tmps) = true := by simp [Region.wanted, hgd]
  rw [if_pos hw]
  subst hnm
  obtain ⟨i0, hi, hz0, hz1, hz2⟩ := info_parts i5
  obtain ⟨v', w', hr, h2, h3, -⟩ := run_append_own (P := Tryd.prog) W B 58 o.type 5 i0 _ 1 1 Tryd.underlying58 hi hz0 hz1 hz2 (by kernel_rfl) (by decide) v _ _ hown ad m.length c (Lib.byteCells m) (by rw [len_bc, Nat.mul_one]) hnews (bc_one m) (by simp only [maxLen]; omega) (by omega) hB
  unfold Oper.wp execOp
  simp only [ho, resolve, invoke, builtin, Sem.run_bind, Sem.run_pure, Result.andThen_ok, List.map_toArray, List.map_cons, List.map_nil, hs, hx, hr]
  refine hK v' w' ?_ h3
  show World.ownsRow _ _ _ _ _ _ _
  rw [bc_app, List.length_append]; exact h2
theorem atB {w : World} {g : Nat} {m : List UInt8} {T : Nat} (h : w.heap[g]? = some (.cells (Lib.byteCells m).toArray T (0, 0))) : ∀ j u, (Lib.byteCells m)[j]? = some u → w.cell? ((⟨g, 0, none⟩ : Addr).add j) = some u := by
  intro j u hj
  rw [show ((⟨g, 0, none⟩ : Addr).add j) = ⟨g, j, none⟩ by simp [Addr.add]; intro h; omega, cell_of_row _ _ j _ T (0, 0) h]
  simpa using hj
theorem own_grownB {W w w' : World} {v : Value} {t : List UInt8} (k : Keep W w) (h : OwnB W.heap.size v t w) (g : w.grownBy w' v.ownBlock) : Keep W w' := keep_grown k h g
/-- A row of bytes that has just been made. -/
theorem own_new (w0 w : World) (m : List UInt8) (hb : m.length ≤ 1048576) (k : Keep w0 w) : OwnB w0.heap.size (.slice (some ⟨w.heap.size, 0, none⟩) m.length m.length) m (w.alloc (.cells (Lib.byteCells m).toArray 5)) := by
  refine ⟨by rw [len_bc, Nat.mul_one], .inr ⟨w.heap.size, m.length, (Lib.byteCells m).toArray, rfl, k.le, heap_alloc_new w _, Nat.le_refl _, by simp only [maxLen]; omega, by simp [len_bc], ?_⟩⟩
  rw [List.take_of_length_le (by simp [len_bc])]
end Go.Proofs.YtonfjmibnnioiaaDoor
