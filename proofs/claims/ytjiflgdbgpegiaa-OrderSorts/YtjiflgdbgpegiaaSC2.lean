import Derived.Test.YtjiflgdbgpegiaaSC1
import Derived.Laws.CopyOwn
set_option linter.unusedVariables false
set_option linter.unusedSimpArgs false
namespace Go.Proofs.Ytjiflgdbgpegiaa
open Go.RowKit
/-- Nothing that was there has turned. -/
def Keep (w w' : World) : Prop := Below w.heap.size w w'
theorem Keep.refl (w : World) : Keep w w := Below.refl _ _
theorem Keep.trans {a b c : World} (h : Keep a b) (k : Keep b c) : Keep a c := Below.trans h (Below.mono k h.size)
theorem Keep.alloc {a b : World} (h : Keep a b) (o : Obj) : Keep a (b.alloc o) := Below.alloc h h.size o
theorem Keep.oth {a b c : World} {g : Nat} (h : Keep a b) (k : Oth g b c) (hg : a.heap.size ≤ g) : Keep a c :=
  Below.trans h ⟨k.os, k.tape, k.output, by rw [k.size]; exact Nat.le_refl _, fun i hi => k.block i (by omega)⟩
theorem Keep.cell {a b : World} (h : Keep a b) {p : Addr} {v : Value} (hc : a.cell? p = some v) : b.cell? p = some v :=
  (Below.cell h (World.block_lt_of_cell? a p hc)).trans hc
theorem Oth.setRow (w : World) (g : Nat) (cs : Array Value) : Oth g w (w.setRow g cs) :=
  ⟨rfl, rfl, rfl, by simp, fun k hk => setRow_other w g k cs hk⟩
/-- Numbers as cells. -/
def UF (l : List Nat) : List Value := l.map fun x => Value.float .f64 x
theorem UF_length (l : List Nat) : (UF l).length = l.length := by simp [UF]
theorem UF_get (l : List Nat) (j : Nat) (h : j < l.length) : (UF l)[j]? = some (.float .f64 (l.getD j 0)) := by simp [UF, List.getD, h]
theorem UF_one (l : List Nat) : ∀ v ∈ UF l, v.oneCell' = true := by
  intro v hv; obtain ⟨_, _, rfl⟩ := List.mem_map.1 hv; rfl
/-- A block of numbers. -/
def RowF (w : World) (g : Nat) (l : List Nat) : Prop := w.heap[g]? = some (.cells (UF l).toArray 23 (0, 0))
theorem RowF.arr {w : World} {g : Nat} {l : List Nat} (h : RowF w g l) : Arr w g l := ⟨_, h, by show (UF l).take l.length = UF l; exact List.take_of_length_le (by rw [UF_length]; exact Nat.le_refl _)⟩
theorem i23 : (Try.prog.info? 23).map (fun i => (i.zero, i.size, i.bytes)) = some (some (.float .f64 0), 1, 8) := by kernel_rfl
theorem s23 : (Try.prog.info? 23).map (·.size) = some 1 := by kernel_rfl
theorem madeF (n : Nat) : madeCells (Value.float .f64 0).cells n = (UF (List.replicate n 0)).toArray := by
  have := toList_madeCells_one (.float .f64 0) n
  rw [← Array.toList_inj]
  simp only [UF, List.map_replicate]
  exact this
/-- make([]float64, n). -/
theorem wpList_makeF (w : World) {ops : Array Oper} {rest : List Oper} {o : Oper} {a : Act} {Q : Exit → Act → World → Prop}
    (hg : o.guard = none) (l c : Operand) (hop : o.op = Op.makeSlice 62 l c) (kl kc : IntKind) (L C : Int) (n : Nat) (hl : a.eval l = .int kl L) (hc : a.eval c = .int kc C) (hL : L = (n : Int)) (hC : C = (n : Int)) (hn : n ≤ 17592186044416)
    (hK : ∀ w', RowF w' w.heap.size (List.replicate n 0) → Keep w w' → w'.heap.size = w.heap.size + 1 → wpList Try.prog ops Q rest (a.put o.dst (.slice (some ⟨w.heap.size, 0, none⟩) n n)) w') :
    wpList Try.prog ops Q (o :: rest) a w := by
  refine wpList_plain hg fun K hK' => ?_
  obtain ⟨i, hi, hz0, hz1, hz2⟩ := info_parts i23
  have hr := run_make (P := Try.prog) w 62 23 i _ Try.underlying62 hi hz0 kl kc n n (by omega) (by omega) (by rw [hz2]; omega) (by omega)
  subst hL
  subst hC
  rw [hz1] at hr
  unfold Oper.wp
  simp only [Int.toNat_natCast, Nat.mul_one, madeF] at hr
  simp [execOp, hop, hl, hc, hr, Result.andThen]
  exact hK' _ _ (hK _ (heap_alloc_new w _) ((Keep.refl w).alloc _) (by simp))
/-- copy(dst, src) into a row of the call's own, as long as what is copied. -/
theorem wpList_copyF {w : World} {ops : Array Oper} {rest : List Oper} {o : Oper} {a : Act} {Q : Exit → Act → World → Prop} (hgd : o.guard = none) (d s : Operand)
    (ho : o.op = .call { callee := .builtin .copy, args := #[d, s], argTypes := #[62, 62] })
    (g gs n dCap sCap : Nat) (l r : List Nat) (hn : l.length = n) (hr : r.length = n) (hd : a.eval d = .slice (some ⟨g, 0, none⟩) n dCap) (hs : a.eval s = .slice (some ⟨gs, 0, none⟩) n sCap)
    (hg : RowF w g r) (hA : Arr w gs l)
    (h : ∀ w', RowF w' g l → Oth g w w' → wpList Try.prog ops Q rest (a.put o.dst (goInt n)) w') :
    wpList Try.prog ops Q (o :: rest) a w := by
  subst hn
  by_cases h0 : l = []
  · subst h0
    have hr0 : r = [] := List.eq_nil_of_length_eq_zero hr
    subst hr0
    refine wpList_copy_nothing hgd d s 62 62 ho 23 Try.underlying62 s23 _ _ 0 dCap 0 sCap hd hs (Nat.zero_min _) ?_
    exact h w hg (Oth.refl _ _)
  · refine wpList_copy_own hgd d s 62 62 ho 23 Try.underlying62 s23 g 0 l.length dCap ⟨gs, 0, none⟩ l.length sCap hd hs _ 23 hg (UF l) (by rw [UF_length]; exact (Nat.min_self _).symm) ?_ (by simp [UF_length, hr]) (UF_one l) ?_
    · intro j v hv
      have hj : j < l.length := by have := (List.getElem?_eq_some_iff.1 hv).1; simpa [UF_length] using this
      rw [UF_get l j hj] at hv
      rw [Addr.add_lit, Nat.zero_add, hA.cell hj, hv]
    · rw [UF_length]
      refine h _ ?_ (Oth.setRow _ _ _)
      unfold RowF
      rw [setRow_heap w g _ _ 23 _ hg]
      have e : (UF r).drop l.length = [] := List.drop_of_length_le (by rw [UF_length]; omega)
      simp [e]
theorem Arr.keep {w w' : World} {g : Nat} {l : List Nat} (h : Arr w g l) (k : Keep w w') : Arr w' g l := by
  obtain ⟨cur, h1, h2⟩ := h
  exact ⟨cur, by rw [k.block g (Array.getElem?_eq_some_iff.1 h1).1]; exact h1, h2⟩
theorem Arr.lt {w : World} {g : Nat} {l : List Nat} (h : Arr w g l) : g < w.heap.size := by
  obtain ⟨cur, h1, -⟩ := h
  exact (Array.getElem?_eq_some_iff.1 h1).1
end Go.Proofs.Ytjiflgdbgpegiaa
