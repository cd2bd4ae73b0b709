import Derived.Test.YteonapeoeckhfaaDoorJ6
import Derived.Lib.ValidU
set_option linter.unusedVariables false
set_option linter.unusedSimpArgs false
namespace Go.Proofs.YteonapeoeckhfaaDoor
open Go.RowKit Go.Shelf
theorem J.is_mem {a x : J} (h : x ∈ a.is) : SizeOf.sizeOf x < SizeOf.sizeOf a := by
  cases a with
  | mk k t ns is =>
    simp only [J.is] at h
    have := List.sizeOf_lt_of_mem h
    rw [J.mk.sizeOf_spec]
    omega
/-- Whether it is so of a value and of all within it. -/
def allJ (p : J → Bool) : J → Bool
  | .mk k t ns is => p (.mk k t ns is) && is.attach.all (fun x => have := List.sizeOf_lt_of_mem x.2; allJ p x.1)
theorem allJ_eq (p : J → Bool) (j : J) : allJ p j = (p j && j.is.all (allJ p)) := by
  cases j with
  | mk k t ns is =>
    rw [allJ]
    congr 1
    rw [Bool.eq_iff_iff, List.all_eq_true, List.all_eq_true]
    constructor
    · intro h x hx; exact h ⟨x, hx⟩ (List.mem_attach _ _)
    · intro h x hx; exact h x.1 x.2
theorem all_upto {l : List J} {p : J → Bool} (h : ∀ i, i < l.length → p (l.getD i j0) = true) : l.all p = true := by
  rw [List.all_eq_true]
  intro x hx
  obtain ⟨i, hi, rfl⟩ := List.getElem_of_mem hx
  have := h i hi
  simpa [List.getD, hi] using this
theorem all_not {l : List J} {p : J → Bool} {i : Nat} (hi : i < l.length) (h : p (l.getD i j0) = false) : l.all p = false := by
  cases q : l.all p with
  | false => rfl
  | true =>
    rw [List.all_eq_true] at q
    have := q (l.getD i j0) (by simp [List.getD, hi])
    rw [this] at h; cases h
/-- How deep lists and objects lie within one another. -/
def own1 (j : J) : Nat := if j.k = 6 ∨ j.k = 7 then 1 else 0
theorem foldl_max_le (l : List Nat) (a m : Nat) : l.foldl Nat.max a ≤ m ↔ a ≤ m ∧ ∀ x ∈ l, x ≤ m := by
  induction l generalizing a with
  | nil => simp
  | cons y l ih =>
    rw [List.foldl_cons, ih]
    simp only [List.mem_cons, forall_eq_or_imp]
    have : Nat.max a y ≤ m ↔ a ≤ m ∧ y ≤ m := Nat.max_le
    rw [this]
    constructor
    · rintro ⟨⟨h1, h2⟩, h3⟩; exact ⟨h1, h2, h3⟩
    · rintro ⟨h1, h2, h3⟩; exact ⟨⟨h1, h2⟩, h3⟩
def dp : J → Nat
  | .mk k t ns is => (is.attach.map (fun x => have := List.sizeOf_lt_of_mem x.2; dp x.1)).foldl Nat.max 0 + own1 (.mk k t ns is)
def mx (l : List J) : Nat := (l.map dp).foldl Nat.max 0
theorem dp_eq (j : J) : dp j = mx j.is + own1 j := by
  cases j with
  | mk k t ns is =>
    rw [dp]
    unfold mx
    congr 2
    exact List.attach_map_val
theorem mx_le (l : List J) (m : Nat) : mx l ≤ m ↔ ∀ i, i < l.length → dp (l.getD i j0) ≤ m := by
  unfold mx
  rw [foldl_max_le]
  constructor
  · rintro ⟨-, h⟩ i hi
    exact h _ (List.mem_map.2 ⟨l.getD i j0, by simp [List.getD, hi], rfl⟩)
  · intro h
    refine ⟨Nat.zero_le _, fun x hx => ?_⟩
    obtain ⟨y, hy, rfl⟩ := List.mem_map.1 hx
    obtain ⟨i, hi, rfl⟩ := List.getElem_of_mem hy
    have := h i hi
    simpa [List.getD, hi] using this
/-- Whether a text is right UTF-8; whether it has no byte. -/
def vT (t : ByteArray) : Bool := Lib.validD t.data.toList
def eT (t : ByteArray) : Bool := t.toList == ByteArray.toList { data := #[] }
def sgl (j : J) : Bool := j.ns.length == 0 && j.is.length == 0
/-- Whether a value has the fields of its kind alone, and these are right. -/
def plain (j : J) : Bool :=
  if j.k = 1 ∨ j.k = 2 ∨ j.k = 3 then eT j.t && sgl j
  else if j.k = 4 then isNm j.t.data.toList && sgl j
  else if j.k = 5 then vT j.t && sgl j
  else if j.k = 6 then eT j.t && j.ns.length == 0
  else if j.k = 7 then eT j.t && j.ns.length == j.is.length && j.ns.all vT
  else false
/-- Is a text among some? -/
def inSet (s : ByteArray) (l : List ByteArray) : Bool := l.any fun x => decide (x = s)
/-- How many different ones there are. -/
def ds : List ByteArray → Nat
  | [] => 0
  | s :: l => ds l + (if inSet s l = true then 0 else 1)
def tw : List ByteArray → Bool
  | [] => false
  | s :: l => inSet s l || tw l
theorem ds_le (l : List ByteArray) : ds l ≤ l.length := by
  induction l with
  | nil => exact Nat.le_refl _
  | cons s l ih => unfold ds; simp only [List.length_cons]; split <;> omega
theorem ds_lt (l : List ByteArray) : decide (ds l < l.length) = tw l := by
  induction l with
  | nil => rfl
  | cons s l ih =>
    have h := ds_le l
    unfold ds tw
    simp only [List.length_cons]
    cases hb : inSet s l with
    | true => simp only [if_true, Bool.true_or]; exact decide_eq_true (by omega)
    | false =>
      simp only [Bool.false_eq_true, if_false, Bool.false_or]
      rw [← ih]
      congr 1
      exact propext ⟨fun h => by omega, fun h => by omega⟩
/-- The first ones, the last of them ahead. -/
def sn (l : List ByteArray) (k : Nat) : List ByteArray := (l.take k).reverse
theorem sn_succ {l : List ByteArray} {k : Nat} (h : k < l.length) : sn l (k + 1) = l.getD k ByteArray.empty :: sn l k := by
  unfold sn
  have e : l.getD k ByteArray.empty = l[k] := by simp [List.getD, h]
  rw [List.take_succ_eq_append_getElem h, List.reverse_append, e]
  rfl
theorem sn_all (l : List ByteArray) : sn l l.length = l.reverse := by unfold sn; rw [List.take_length]
/-- Whether a text stands twice. -/
def twn (l : List ByteArray) : Bool := tw l.reverse
end Go.Proofs.YteonapeoeckhfaaDoor
