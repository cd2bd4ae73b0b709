import Derived.Test.YtolfaheabdedpaaRP
set_option linter.unusedVariables false
set_option linter.unusedSimpArgs false
namespace Go.Proofs.Ytolfaheabdedpaa
open Go.RowKit Go.Shelf
attribute [local go_sem] run_store_float
theorem zero8 (X : Nat → Nat) : (UF (xsK X 0)).toArray = #[.float .f64 0, .float .f64 0, .float .f64 0, .float .f64 0, .float .f64 0, .float .f64 0, .float .f64 0, .float .f64 0] := by simp [UF, xsK, List.range, List.range.loop]
theorem full8 (X : Nat → Nat) : (UF (xsK X 8)).toArray = #[.float .f64 (X 0), .float .f64 (X 1), .float .f64 (X 2), .float .f64 (X 3), .float .f64 (X 4), .float .f64 (X 5), .float .f64 (X 6), .float .f64 (X 7)] := by simp [UF, xsK, List.range, List.range.loop]
theorem SI.keep {z E I : Nat} {W0 : World} {K : List Sl} {V : List (List Nat)} {v : Value} {w w' : World} (h : SI z E I W0 K V v w) (k : Keep w w') : SI z E I W0 K V v w' :=
  ⟨h.k0.trans k, own_keep h.own k, h.kl, fun i hi => (h.ok i hi).keep k⟩
/-- The rows of another block stay where one's own row grows. -/
theorem SI.grown {z E I : Nat} {W0 : World} {K : List Sl} {V : List (List Nat)} {v : Value} {w w' : World} (h : SI z E I W0 K V v w) {r : Option Nat} (g : w.grownBy w' r) (h1 : ∀ b, r = some b → W0.heap.size ≤ b) (h2 : ∀ b, v.ownBlock = some b → r ≠ some b) (h3 : ∀ i, i < V.length → ∀ p, (K.getD i s0).1 = some p → r ≠ some p.block) : SI z E I W0 K V v w' := by
  refine ⟨Below.grown h.k0 g h.k0.le h1, own_same h.own (fun b hb => ?_), h.kl, fun i hi => ?_⟩
  · obtain ⟨_, cur, hh⟩ := own_block h.own hb
    exact g.block b (Array.getElem?_eq_some_iff.1 hh).1 (fun e => h2 b hb e.symm)
  · have hI := h.ok i hi
    have hk : ∀ p, (K.getD i s0).1 = some p → w'.heap[p.block]? = w.heap[p.block]? := fun p hp => by
      obtain ⟨_, cur, hh⟩ := hI.ty p hp
      exact g.block _ (Array.getElem?_eq_some_iff.1 hh).1 (fun e => h3 i hi p hp e.symm)
    refine ⟨hI.n, hI.c, hI.rd.same hk, fun p hp => ?_⟩
    obtain ⟨hb, cur, hh⟩ := hI.ty p hp
    exact ⟨hb, cur, by rw [hk p hp]; exact hh⟩
/-- What the document's Pack holds while a group is laid: all groups so far, in blocks below M, and the lanes of this one, in a block from M on. -/
structure RPI (W0 : World) (M : Nat) (V : List (List Nat)) (d j f : Nat) (K : List Sl) (vo vg : Value) (w : World) : Prop where
  si : SI 8 51 35 W0 K ((pk V d).take j) vo w
  own : OwnL M w vg f (tab (f * 8) (pkC V j))
  m0 : W0.heap.size ≤ M
  m1 : M ≤ w.heap.size
  lt : ∀ i, i < ((pk V d).take j).length → ∀ p, (K.getD i s0).1 = some p → p.block < M
  lv : ∀ b, vo.ownBlock = some b → b < M
theorem RPI.start {W0 : World} {V : List (List Nat)} {d j : Nat} {K : List Sl} {vo : Value} {w : World} (h : SI 8 51 35 W0 K ((pk V d).take j) vo w) : RPI W0 w.heap.size V d j 0 K vo (.slice none 0 0) w :=
  ⟨h, by rw [Nat.zero_mul]; exact OwnL.nil _ _, h.k0.le, Nat.le_refl _, fun i hi p hp => by obtain ⟨_, cur, hh⟩ := (h.ok i hi).ty p hp; exact (Array.getElem?_eq_some_iff.1 hh).1, fun b hb => by obtain ⟨_, cur, hh⟩ := own_block h.own hb; exact (Array.getElem?_eq_some_iff.1 hh).1⟩
theorem RPI.keep {W0 : World} {M : Nat} {V : List (List Nat)} {d j f : Nat} {K : List Sl} {vo vg : Value} {w w' : World} (h : RPI W0 M V d j f K vo vg w) (k : Keep w w') : RPI W0 M V d j f K vo vg w' :=
  ⟨h.si.keep k, own_keep h.own k, h.m0, Nat.le_trans h.m1 k.le, h.lt, h.lv⟩
theorem RPI.next {W0 : World} {M : Nat} {V : List (List Nat)} {d j f : Nat} {K : List Sl} {vo vg v7 : Value} {w w7 : World} (h : RPI W0 M V d j f K vo vg w) (o7 : OwnL M w7 v7 (f + 1) (tab ((f + 1) * 8) (pkC V j))) (g7 : w.grownBy w7 vg.ownBlock) : RPI W0 M V d j (f + 1) K vo v7 w7 := by
  have hM : ∀ b, vg.ownBlock = some b → M ≤ b := fun b hb => (own_block h.own hb).1
  refine ⟨h.si.grown g7 (fun b hb => Nat.le_trans h.m0 (hM b hb)) (fun b hb e => ?_) (fun i hi p hp e => ?_), o7, h.m0, Nat.le_trans h.m1 g7.size, h.lt, h.lv⟩
  · have h1 := hM b e
    have h2 := h.lv b hb
    omega
  · have h1 := hM p.block e
    have h2 := h.lt i hi p hp
    omega
end Go.Proofs.Ytolfaheabdedpaa
