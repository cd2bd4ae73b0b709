import Derived.Test.YtbchinfmdioijaaT4
set_option linter.unusedVariables false
set_option linter.unusedSimpArgs false
namespace Go.Proofs.Ytbchinfmdioijaa
open Go.RowKit Go.Shelf
attribute [local go_sem] Oper.semAt_some
/-- The shape of nodes. -/
def shp (L : List Nd) : Sh := ⟨fun i => decide ((L.getD i nd0).kd = 2 ∨ (L.getD i nd0).kd = 3), fun i => (L.getD i nd0).lf.toNat, fun i => (L.getD i nd0).rt.toNat⟩
/-- All of them are right. -/
def Rgt (L : List Nd) : Prop := 0 < L.length ∧ ∀ i, i < L.length → rightB (L.getD i nd0) L.length = true
theorem Rgt.kids {L : List Nd} (h : Rgt L) {i : Nat} (hi : i < L.length) (hk : (shp L).K i = true) :
    ((L.getD i nd0).lf = ((shp L).A i : Nat) ∧ (shp L).A i < L.length ∧ 0 < (shp L).A i) ∧ ((L.getD i nd0).rt = ((shp L).B i : Nat) ∧ (shp L).B i < L.length ∧ 0 < (shp L).B i) := by
  have hr := h.2 i hi
  simp only [shp, decide_eq_true_eq] at hk ⊢
  generalize L.getD i nd0 = n at *
  unfold rightB spl at hr
  rcases hk with hk | hk
  · rw [if_neg (by omega), if_pos hk] at hr
    simp only [Bool.and_eq_true, decide_eq_true_eq] at hr
    omega
  · rw [if_neg (by omega), if_neg (by omega), if_pos hk] at hr
    simp only [Bool.and_eq_true, decide_eq_true_eq] at hr
    omega
theorem Rgt.wi {L : List Nd} (h : Rgt L) : In (shp L) L.length := ⟨h.1, fun i hi hk => ⟨(h.kids hi hk).1.2.1, (h.kids hi hk).2.2.1⟩⟩
/-- Kinds and children can be read, from blocks below n0. -/
def RdB (n0 : Nat) (w : World) (a : Option Addr) (L : List Nd) : Prop :=
  ∀ j, j < L.length → ∃ b o, a = some ⟨b, o, none⟩ ∧ b < n0 ∧ w.cell? ⟨b, o + j * 8, none⟩ = some (.int .u8 ((L.getD j nd0).kd : Nat)) ∧ w.cell? ⟨b, o + j * 8 + 6, none⟩ = some (.int .i64 (L.getD j nd0).lf) ∧ w.cell? ⟨b, o + j * 8 + 7, none⟩ = some (.int .i64 (L.getD j nd0).rt)
theorem RdB.same {n0 : Nat} {w w' : World} {a : Option Addr} {L : List Nd} (h : RdB n0 w a L) (k : ∀ g, g < n0 → w'.heap[g]? = w.heap[g]?) : RdB n0 w' a L := by
  intro j hj
  obtain ⟨b, o, e, hb, c0, c1, c2⟩ := h j hj
  have hk := k b hb
  exact ⟨b, o, e, hb, by rw [World.cell?_of_block (a := ⟨b, o + j * 8, none⟩) hk]; exact c0, by rw [World.cell?_of_block (a := ⟨b, o + j * 8 + 6, none⟩) hk]; exact c1, by rw [World.cell?_of_block (a := ⟨b, o + j * 8 + 7, none⟩) hk]; exact c2⟩
/-- Which have been met. -/
def mets (N : Nat) (out : List Nat) : List Bool := (List.range N).map fun j => decide (j ∈ out)
theorem mets_len (N : Nat) (out : List Nat) : (mets N out).length = N := by simp [mets]
theorem mets_get {N : Nat} {out : List Nat} {j : Nat} (h : j < N) : (mets N out).getD j false = decide (j ∈ out) := by simp [mets, List.getD, h]
theorem mets_nil (N : Nat) : mets N [] = List.replicate N false := by
  apply List.ext_getElem
  · simp [mets]
  · intro i h1 h2; simp [mets]
theorem mets_set {N : Nat} {out : List Nat} {i : Nat} (h : i < N) : (mets N out).set i true = mets N (out ++ [i]) := by
  apply List.ext_getElem
  · simp [mets]
  · intro j h1 h2
    simp only [mets, List.getElem_set, List.getElem_map, List.getElem_range]
    by_cases e : i = j
    · subst e; simp
    · rw [if_neg e]
      have : ¬ j = i := fun h => e h.symm
      simp [this]
abbrev nums {N : Nat} (xs : List (Fin N)) : List Nat := xs.map (·.val)
/-- What the iterator holds between two rounds. -/
structure Itr (L : List Nd) (n0 Bs gm : Nat) (a : Option Addr) (cap : Nat) (J : List (Fin L.length) → (Nat → Prop) → World → Prop) (f : Nat) (vw : Value) (wr : World) (out : List (Fin L.length)) (S : List Nat) (T : Nat → Prop) : Prop where
  own : OwnI wr vw S.reverse
  inT : ∀ b, vw.ownBlock = some b → T b
  row : RowB wr gm (mets L.length (nums out))
  gmT : T gm
  BsT : T Bs
  lt : ∀ g, T g → n0 ≤ g ∧ g < wr.heap.size
  j : J out T wr
  way : Way (shp L) L.length (nums out) S
  eq : go (shp L) f (nums out) S = ord (shp L) L.length
  fuel : 3 * (L.length - out.length) + S.length ≤ f
  top : f ≤ 3 * L.length + 1
  box : wr.cell? ⟨Bs, 0, none⟩ = some (.slice a L.length cap)
  rd : RdB n0 wr a L
end Go.Proofs.Ytbchinfmdioijaa
