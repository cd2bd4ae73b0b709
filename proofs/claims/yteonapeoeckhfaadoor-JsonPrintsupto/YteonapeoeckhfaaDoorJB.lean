import Derived.WalkKit
import Derived.Test.YteonapeoeckhfaaDoorProg
import Derived.WalkSpells
import Derived.WalkLawsBesides
import Derived.Laws.CopyOwn
import Derived.Deep.Draws
import Derived.Deep.QuietTactic
import Derived.BigQuiet
import Derived.Deep.CutRange
import Derived.Deep.CutBlock
import Derived.Deep.LoopGhost
import Derived.Deep.RegionWith
import Derived.Laws.Externs
import Derived.Shelf.Abstract
import Derived.Below
import Derived.Deep.RegionLaw
import Derived.BigRegion
import Derived.Lib.Bytealg
import Derived.Defers
import Derived.Recover
set_option linter.unusedVariables false
set_option linter.unusedSimpArgs false
namespace Go.Proofs.YteonapeoeckhfaaDoor
/-- Whether the next byte is one of these. -/
def tk (s ts : List UInt8) (k : Nat) : Bool := decide (k < s.length ∧ s.getD k 0 ∈ ts)
/-- Where the bytes that are some of these end. -/
def tkE (s ts : List UInt8) (k : Nat) : Nat := k + ((s.drop k).takeWhile (fun b => decide (b ∈ ts))).length
theorem tk_lt {s ts : List UInt8} {k : Nat} (h : tk s ts k = true) : k < s.length := (of_decide_eq_true h).1
theorem tk_mem {s ts : List UInt8} {k : Nat} (h : tk s ts k = true) : s.getD k 0 ∈ ts := (of_decide_eq_true h).2
theorem tkE_go {s ts : List UInt8} {k : Nat} (h : tk s ts k = true) : tkE s ts k = tkE s ts (k + 1) := by
  have h1 := tk_lt h
  have h2 := tk_mem h
  unfold tkE
  have h4 : s.getD k 0 = s[k] := by simp [List.getD, h1]
  rw [h4] at h2
  rw [List.drop_eq_getElem_cons h1, List.takeWhile_cons_of_pos (by simpa using h2)]
  simp only [List.length_cons]
  omega
theorem tkE_end {s ts : List UInt8} {k : Nat} (h : tk s ts k = false) : tkE s ts k = k := by
  unfold tkE
  by_cases h1 : k < s.length
  · have h2 : ¬ s[k] ∈ ts := by
      intro q
      have : tk s ts k = true := decide_eq_true ⟨h1, by simpa [List.getD, h1] using q⟩
      rw [this] at h; cases h
    rw [List.drop_eq_getElem_cons h1, List.takeWhile_cons_of_neg (by simpa using h2)]
    rfl
  · rw [List.drop_eq_nil_of_le (by omega)]; rfl
theorem tkE_ge (s ts : List UInt8) (k : Nat) : k ≤ tkE s ts k := by unfold tkE; omega
theorem tkE_le {s ts : List UInt8} {k : Nat} (h : k ≤ s.length) : tkE s ts k ≤ s.length := by
  unfold tkE
  have : ((s.drop k).takeWhile (fun b => decide (b ∈ ts))).length ≤ (s.drop k).length := by
    exact (List.takeWhile_prefix _).length_le
  rw [List.length_drop] at this
  omega
theorem tkE_stop (s ts : List UInt8) (k : Nat) : tk s ts (tkE s ts k) = false := by
  generalize hn : s.length - k = n
  induction n generalizing k with
  | zero =>
    rw [tkE_end (decide_eq_false (fun h => by have := h.1; omega))]
    exact decide_eq_false (fun h => by have := h.1; omega)
  | succ n ih =>
    cases h : tk s ts k with
    | true => rw [tkE_go h]; exact ih (k + 1) (by omega)
    | false => rw [tkE_end h]; exact h
/-- Digits. -/
def tenD : List UInt8 := [48, 49, 50, 51, 52, 53, 54, 55, 56, 57]
/-- Blanks. -/
def blS : List UInt8 := [32, 9, 10, 13]
/-- One digit or more: right, and where they end; or wrong, and where. -/
def dg (s : List UInt8) (k : Nat) : Bool × Nat := if tk s tenD k then (true, tkE s tenD (k + 1)) else (false, k)
def nu1 (s : List UInt8) (k : Nat) : Nat := if tk s [45] k then k + 1 else k
def nu2 (s : List UInt8) (k : Nat) : Bool × Nat := if tk s [48] k then (true, k + 1) else dg s k
def nu3 (s : List UInt8) (k : Nat) : Bool × Nat := if tk s [46] k then dg s (k + 1) else (true, k)
def nu5 (s : List UInt8) (k : Nat) : Nat := if tk s [43, 45] k then k + 1 else k
def nu4 (s : List UInt8) (k : Nat) : Bool × Nat := if tk s [101, 69] k then dg s (nu5 s (k + 1)) else (true, k)
/-- A number: right, and where it ends; or wrong, and where. -/
def num (s : List UInt8) (k : Nat) : Bool × Nat :=
  let a := nu2 s (nu1 s k)
  if a.1 then (let b := nu3 s a.2; if b.1 then nu4 s b.2 else b) else a
theorem tk_le {s ts : List UInt8} {k : Nat} (hk : k ≤ s.length) : (if tk s ts k then k + 1 else k) ≤ s.length := by
  cases h : tk s ts k with
  | true => have := tk_lt h; simp; omega
  | false => simpa using hk
theorem dg_le {s : List UInt8} {k : Nat} (h : k ≤ s.length) : (dg s k).2 ≤ s.length := by
  unfold dg
  cases h1 : tk s tenD k with
  | true => have := tk_lt h1; simp only [if_true]; exact tkE_le (by omega)
  | false => simpa using h
theorem dg_ge (s : List UInt8) (k : Nat) : k ≤ (dg s k).2 := by
  unfold dg
  cases h1 : tk s tenD k with
  | true => have := tkE_ge s tenD (k + 1); simp only [if_true]; omega
  | false => simp
theorem nu1_le {s : List UInt8} {k : Nat} (h : k ≤ s.length) : nu1 s k ≤ s.length := tk_le h
theorem nu5_le {s : List UInt8} {k : Nat} (h : k ≤ s.length) : nu5 s k ≤ s.length := tk_le h
theorem nu1_ge (s : List UInt8) (k : Nat) : k ≤ nu1 s k := by unfold nu1; split <;> omega
theorem nu5_ge (s : List UInt8) (k : Nat) : k ≤ nu5 s k := by unfold nu5; split <;> omega
theorem nu2_le {s : List UInt8} {k : Nat} (h : k ≤ s.length) : (nu2 s k).2 ≤ s.length := by
  unfold nu2
  cases h1 : tk s [48] k with
  | true => have := tk_lt h1; simp; omega
  | false => simp; exact dg_le h
theorem nu2_ge (s : List UInt8) (k : Nat) : k ≤ (nu2 s k).2 := by
  unfold nu2
  have := dg_ge s k
  split <;> simp <;> omega
theorem nu3_le {s : List UInt8} {k : Nat} (h : k ≤ s.length) : (nu3 s k).2 ≤ s.length := by
  unfold nu3
  cases h1 : tk s [46] k with
  | true => have := tk_lt h1; simp; exact dg_le (by omega)
  | false => simpa using h
theorem nu3_ge (s : List UInt8) (k : Nat) : k ≤ (nu3 s k).2 := by
  unfold nu3
  have := dg_ge s (k + 1)
  split <;> simp <;> omega
theorem nu4_le {s : List UInt8} {k : Nat} (h : k ≤ s.length) : (nu4 s k).2 ≤ s.length := by
  unfold nu4
  cases h1 : tk s [101, 69] k with
  | true => have := tk_lt h1; simp; exact dg_le (nu5_le (by omega))
  | false => simpa using h
theorem nu4_ge (s : List UInt8) (k : Nat) : k ≤ (nu4 s k).2 := by
  unfold nu4
  have := dg_ge s (nu5 s (k + 1))
  have := nu5_ge s (k + 1)
  split <;> simp <;> omega
theorem num_le {s : List UInt8} {k : Nat} (h : k ≤ s.length) : (num s k).2 ≤ s.length := by
  have h1 := nu2_le (nu1_le h)
  unfold num
  dsimp only
  split
  · split
    · exact nu4_le (nu3_le h1)
    · exact nu3_le h1
  · exact h1
theorem num_ge (s : List UInt8) (k : Nat) : k ≤ (num s k).2 := by
  have h1 := nu1_ge s k
  have h2 := nu2_ge s (nu1 s k)
  have h3 := nu3_ge s (nu2 s (nu1 s k)).2
  have h4 := nu4_ge s (nu3 s (nu2 s (nu1 s k)).2).2
  unfold num
  dsimp only
  split
  · split <;> omega
  · omega
end Go.Proofs.YteonapeoeckhfaaDoor
set_option linter.unusedVariables false
set_option linter.unusedSimpArgs false
namespace Go.Proofs.YteonapeoeckhfaaDoor
open Go.RowKit
/-- A Json value. -/
inductive J where
  | mk (k : Nat) (t : ByteArray) (ns : List ByteArray) (is : List J)
def j0 : J := .mk 0 ByteArray.empty [] []
def J.k : J → Nat | .mk k _ _ _ => k
def J.t : J → ByteArray | .mk _ t _ _ => t
def J.ns : J → List ByteArray | .mk _ _ ns _ => ns
def J.is : J → List J | .mk _ _ _ is => is
theorem J.ext' {a b : J} (h1 : a.k = b.k) (h2 : a.t = b.t) (h3 : a.ns = b.ns) (h4 : a.is = b.is) : a = b := by
  cases a; cases b
  simp only [J.k, J.t, J.ns, J.is] at *
  subst h1 h2 h3 h4
  rfl
theorem J.is_lt {a : J} {i : Nat} (h : i < a.is.length) : SizeOf.sizeOf (a.is.getD i j0) < SizeOf.sizeOf a := by
  cases a with
  | mk k t ns is =>
    simp only [J.is] at h ⊢
    have hm : is.getD i j0 ∈ is := by
      rw [List.getD_eq_getElem?_getD, List.getElem?_eq_getElem h]
      exact List.getElem_mem h
    have := List.sizeOf_lt_of_mem hm
    rw [J.mk.sizeOf_spec]
    omega
def Keep (w w' : World) : Prop := Below w.heap.size w w'
theorem Keep.refl (w : World) : Keep w w := Below.refl _ _
theorem Keep.trans {a b c : World} (h : Keep a b) (k : Keep b c) : Keep a c := Below.trans h (Below.mono k h.size)
theorem Keep.drewN {a b : World} (h : Keep a b) (q : Nat) : Keep a (b.drewN q) := ⟨h.os, h.tape, h.output, h.size, h.block⟩
theorem Keep.drew {a b : World} (h : Keep a b) : Keep a b.drew := Below.drew h
theorem Keep.alloc {a b : World} (h : Keep a b) (o : Obj) : Keep a (b.alloc o) := Below.alloc h h.size o
theorem Keep.le {a b : World} (h : Keep a b) : a.heap.size ≤ b.heap.size := h.size
/-- Texts that can be read. -/
def RdS (w : World) (a : Option Addr) (l : List ByteArray) : Prop :=
  ∀ j, j < l.length → ∃ b o, a = some ⟨b, o, none⟩ ∧ w.cell? ⟨b, o + j, none⟩ = some (.string (l.getD j ByteArray.empty))
/-- A value that reads as a Json value, in all its depth. -/
inductive RdV (w : World) : Value → J → Prop where
  | mk (k : Nat) (t : ByteArray) (ns : List ByteArray) (is : List J) (an : Option Addr) (cn : Nat) (ai : Option Addr) (ci : Nat) (X : Nat → Value × Value × Value × Value)
      (hk : k < 256) (hn : RdS w an ns) (ln : ns.length ≤ 140737488355328) (li : is.length ≤ 140737488355328)
      (hx : ∀ i, i < is.length → ∃ b o, ai = some ⟨b, o, none⟩ ∧ w.cell? ⟨b, o + i * 4, none⟩ = some (X i).1 ∧ w.cell? ⟨b, o + i * 4 + 1, none⟩ = some (X i).2.1 ∧ w.cell? ⟨b, o + i * 4 + 2, none⟩ = some (X i).2.2.1 ∧ w.cell? ⟨b, o + i * 4 + 3, none⟩ = some (X i).2.2.2)
      (hr : ∀ i, i < is.length → RdV w (.agg #[(X i).1, (X i).2.1, (X i).2.2.1, (X i).2.2.2]) (is.getD i j0)) :
      RdV w (.agg #[.int .u8 (k : Nat), .string t, .slice an ns.length cn, .slice ai is.length ci]) (.mk k t ns is)
theorem Keep.cell {a b : World} (h : Keep a b) {p : Addr} {v : Value} (hc : a.cell? p = some v) : b.cell? p = some v :=
  (Below.cell h (World.block_lt_of_cell? a p hc)).trans hc
theorem RdS.keep {w w' : World} {a : Option Addr} {l : List ByteArray} (h : RdS w a l) (k : Keep w w') : RdS w' a l := by
  intro j hj
  obtain ⟨b, o, e, hc⟩ := h j hj
  exact ⟨b, o, e, k.cell hc⟩
theorem RdV.keep {w w' : World} {v : Value} {j : J} (h : RdV w v j) (k : Keep w w') : RdV w' v j := by
  induction h with
  | mk kk t ns is an cn ai ci X hk hn ln li hx hr ih =>
    refine RdV.mk kk t ns is an cn ai ci X hk (hn.keep k) ln li ?_ ih
    intro i hi
    obtain ⟨b, o, e, h1, h2, h3, h4⟩ := hx i hi
    exact ⟨b, o, e, k.cell h1, k.cell h2, k.cell h3, k.cell h4⟩
end Go.Proofs.YteonapeoeckhfaaDoor
set_option linter.unusedVariables false
set_option linter.unusedSimpArgs false
namespace Go.Proofs.YteonapeoeckhfaaDoor
open Go.RowKit Go.Shelf
theorem sz_mk (l : List UInt8) : (ByteArray.mk l.toArray).size = l.length := by simp [ByteArray.size]
theorem mk_dt (s : ByteArray) : ByteArray.mk s.data.toList.toArray = s := by simp
/-- What a function gives up with. -/
def PE (why at_ : Nat) : PanicEntry := { v := .iface 50 (.agg #[.int .i64 (why : Int), .int .i64 (at_ : Int)]), recovered := false }
/-- All that was there but one block is as it was. -/
structure Kb (g : Nat) (w w' : World) : Prop where
  os : w'.os = w.os
  tape : w'.tape = w.tape
  output : w'.output = w.output
  size : w.heap.size ≤ w'.heap.size
  block : ∀ k, k < w.heap.size → k ≠ g → w'.heap[k]? = w.heap[k]?
theorem Kb.refl (g : Nat) (w : World) : Kb g w w := ⟨rfl, rfl, rfl, Nat.le_refl _, fun _ _ _ => rfl⟩
theorem Kb.trans {g : Nat} {a b c : World} (h : Kb g a b) (k : Kb g b c) : Kb g a c :=
  ⟨k.os.trans h.os, k.tape.trans h.tape, k.output.trans h.output, Nat.le_trans h.size k.size, fun j hj hg => (k.block j (Nat.lt_of_lt_of_le hj h.size) hg).trans (h.block j hj hg)⟩
theorem Kb.set {g : Nat} {a b : World} (h : Kb g a b) (j : Nat) (v : Value) : Kb g a (b.setCell ⟨g, j, none⟩ v) :=
  ⟨h.os, h.tape, h.output, by rw [World.size_setCell]; exact h.size, fun k hk hg => (Below.heap_setCell _ _ _ _ (by simpa using hg)).trans (h.block k hk hg)⟩
theorem Kb.drewN {g : Nat} {a b : World} (h : Kb g a b) (n : Nat) : Kb g a (b.drewN n) := ⟨h.os, h.tape, h.output, h.size, h.block⟩
theorem Kb.drew {g : Nat} {a b : World} (h : Kb g a b) : Kb g a b.drew := ⟨h.os, h.tape, h.output, h.size, h.block⟩
theorem Keep.kb {a b : World} (h : Keep a b) (g : Nat) : Kb g a b := ⟨h.os, h.tape, h.output, h.size, fun k hk _ => h.block k hk⟩
theorem Keep.at {a b : World} (h : Keep a b) {i : Nat} {o : Obj} (hb : a.heap[i]? = some o) : b.heap[i]? = some o := by
  rw [h.block i (Array.getElem?_eq_some_iff.1 hb).1]; exact hb
theorem Kb.at {g : Nat} {a b : World} (h : Kb g a b) {i : Nat} {o : Obj} (hb : a.heap[i]? = some o) (hg : i ≠ g) : b.heap[i]? = some o := by
  rw [h.block i (Array.getElem?_eq_some_iff.1 hb).1 hg]; exact hb
theorem Kb.cell {g : Nat} {a b : World} (h : Kb g a b) {p : Addr} {v : Value} (hc : a.cell? p = some v) (hg : p.block ≠ g) : b.cell? p = some v := by
  have hb := h.block p.block (World.block_lt_of_cell? a p hc) hg
  rw [← hc]
  unfold World.cell?
  rw [hb]
/-- What lies in a block made since is nothing to what was there. -/
theorem Kb.keep {a b c : World} {g : Nat} (h : Keep a b) (k : Kb g b c) (hg : a.heap.size ≤ g) : Keep a c :=
  ⟨k.os.trans h.os, k.tape.trans h.tape, k.output.trans h.output, Nat.le_trans h.size k.size, fun j hj => (k.block j (Nat.lt_of_lt_of_le hj h.size) (by omega)).trans (h.block j hj)⟩
/-- Bytes that can be read. -/
def RdB (w : World) (ta : Option Addr) (s : List UInt8) : Prop :=
  ∀ j, j < s.length → ∃ tb o, ta = some ⟨tb, o, none⟩ ∧ w.cell? ⟨tb, o + j, none⟩ = some (.int .u8 ((s.getD j 0).toNat : Int))
/-- A parser: its text and how far it has come. -/
structure Rp (w : World) (b : Nat) (ta : Option Addr) (c : Nat) (s : List UInt8) (k : Nat) : Prop where
  box : w.heap[b]? = some (.cells #[.slice ta s.length c, .int .i64 (k : Int)] 48 (0, 0))
  rd : RdB w ta s
theorem Rp.c0 {w : World} {b c k : Nat} {ta : Option Addr} {s : List UInt8} (h : Rp w b ta c s k) : w.cell? ⟨b, 0, none⟩ = some (.slice ta s.length c) := by rw [cell_of_row w b 0 _ 48 (0, 0) h.box]; rfl
theorem Rp.c1 {w : World} {b c k : Nat} {ta : Option Addr} {s : List UInt8} (h : Rp w b ta c s k) : w.cell? ⟨b, 1, none⟩ = some (.int .i64 (k : Int)) := by rw [cell_of_row w b 1 _ 48 (0, 0) h.box]; rfl
theorem Rp.f1 {w : World} {b c k : Nat} {ta : Option Addr} {s : List UInt8} (h : Rp w b ta c s k) (j : Nat) : w.frozen? ⟨b, j, none⟩ = false := frozen_of_row w b j _ 48 h.box
theorem Rp.lt {w : World} {b c k : Nat} {ta : Option Addr} {s : List UInt8} (h : Rp w b ta c s k) : b < w.heap.size := (Array.getElem?_eq_some_iff.1 h.box).1
theorem Rp.ne {w : World} {b c k : Nat} {s : List UInt8} {tb o : Nat} (h : Rp w b (some ⟨tb, o, none⟩) c s k) {j : Nat} (hj : j < s.length) : tb ≠ b := by
  intro e
  subst e
  obtain ⟨tb', o', e1, hc⟩ := h.rd j hj
  simp only [Option.some.injEq, Addr.mk.injEq, and_true] at e1
  obtain ⟨rfl, rfl⟩ := e1
  rw [cell_of_row w tb _ _ 48 (0, 0) h.box] at hc
  match hq : o + j, hc with
  | 0, hc => simp at hc
  | 1, hc => simp at hc
  | q + 2, hc => simp at hc
theorem Rp.move {w w' : World} {b c k : Nat} {ta : Option Addr} {s : List UInt8} (h : Rp w b ta c s k) (hk : Kb b w w') (j : Nat) (hb : w'.heap[b]? = some (.cells #[.slice ta s.length c, .int .i64 (j : Int)] 48 (0, 0))) : Rp w' b ta c s j := by
  refine ⟨hb, fun i hi => ?_⟩
  obtain ⟨tb, o, rfl, hc⟩ := h.rd i hi
  exact ⟨tb, o, rfl, hk.cell hc (h.ne hi)⟩
theorem Rp.set {w : World} {b c k : Nat} {ta : Option Addr} {s : List UInt8} (h : Rp w b ta c s k) (j : Nat) : Rp (w.setCell ⟨b, 1, none⟩ (.int .i64 (j : Int))) b ta c s j := by
  have := heap_setCell_same w b 1 _ 48 (.int .i64 (j : Int)) h.box
  refine h.move ((Kb.refl b w).set 1 _) j ?_
  rw [this]
  rfl
theorem Rp.drewN {w : World} {b c k : Nat} {ta : Option Addr} {s : List UInt8} (h : Rp w b ta c s k) (n : Nat) : Rp (w.drewN n) b ta c s k := ⟨h.box, h.rd⟩
theorem Rp.keep {w w' : World} {b c k : Nat} {ta : Option Addr} {s : List UInt8} (h : Rp w b ta c s k) (hk : Keep w w') : Rp w' b ta c s k := by
  refine ⟨hk.at h.box, fun i hi => ?_⟩
  obtain ⟨tb, o, e, hc⟩ := h.rd i hi
  exact ⟨tb, o, e, hk.cell hc⟩
theorem ixB (l : List UInt8) (c : UInt8) : (Lib.indexByte l c < 0) ↔ c ∉ l := by
  induction l with
  | nil => simp [Lib.indexByte]
  | cons b l ih =>
    have hge := Lib.indexByte_ge l c
    unfold Lib.indexByte
    by_cases h : b = c
    · subst h; simp
    · have hb : (b == c) = false := by simpa using h
      rw [hb]
      simp only [Bool.false_eq_true, if_false]
      by_cases h2 : Lib.indexByte l c = -1
      · rw [h2]
        have : c ∉ l := ih.1 (by omega)
        simp [this, Ne.symm h]
      · have h3 : (Lib.indexByte l c == -1) = false := by simpa using h2
        rw [h3]
        simp only [Bool.false_eq_true, if_false]
        have : c ∈ l := by
          refine Classical.byContradiction fun q => ?_
          have := ih.2 q
          omega
        simp [this]
        omega
/-- What is asked of strings.IndexByte. -/
def IxC : Prop := ∀ (ts : List UInt8) (c : UInt8) (wx : World), Calls Tryd.prog 82 #[.string ⟨ts.toArray⟩, .int .u8 (c.toNat : Int)] wx fun e w' => e = .returned (.int .i64 (Lib.indexByte ts c)) ∧ w' = wx
set_option maxRecDepth 100000 in
theorem failAt_any (k : Nat) (w : World) : Calls Tryd.prog 46 #[.int .i64 (k : Int)] w fun e w' => e = .panicked [PE 100 k] ∧ w' = w := by
  go_enter Tryd.func46, Tryd.ntmps46
  go_wp2
  exact ⟨rfl, rfl, rfl⟩
end Go.Proofs.YteonapeoeckhfaaDoor
