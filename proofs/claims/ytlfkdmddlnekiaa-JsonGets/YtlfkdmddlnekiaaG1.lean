import Derived.Test.YtlfkdmddlnekiaaProg
import Derived.WalkKit
import Derived.WalkSpells
import Derived.WalkLawsBesides
import Derived.Laws.CopyOwn
import Derived.Deep.Draws
import Derived.Deep.QuietTactic
import Derived.BigQuiet
import Derived.Deep.CutRange
import Derived.Deep.CutBlock
import Derived.Deep.LoopGhost
import Derived.Deep.RegionWith
set_option linter.unusedVariables false
set_option linter.unusedSimpArgs false
namespace Go.Proofs.Ytlfkdmddlnekiaa
open Go.RowKit
/-- A Json value. -/
inductive J where
  | mk (k : Nat) (t : ByteArray) (ns : List ByteArray) (is : List J)
def j0 : J := .mk 0 ByteArray.empty [] []
def J.k : J → Nat | .mk k _ _ _ => k
def J.t : J → ByteArray | .mk _ t _ _ => t
def J.ns : J → List ByteArray | .mk _ _ ns _ => ns
def J.is : J → List J | .mk _ _ _ is => is
theorem J.ext' {a b : J} (h1 : a.k = b.k) (h2 : a.t = b.t) (h3 : a.ns = b.ns) (h4 : a.is = b.is) : a = b := by
  cases a; cases b
  simp only [J.k, J.t, J.ns, J.is] at *
  subst h1 h2 h3 h4
  rfl
theorem J.is_lt {a : J} {i : Nat} (h : i < a.is.length) : SizeOf.sizeOf (a.is.getD i j0) < SizeOf.sizeOf a := by
  cases a with
  | mk k t ns is =>
    simp only [J.is] at h ⊢
    have hm : is.getD i j0 ∈ is := by
      rw [List.getD_eq_getElem?_getD, List.getElem?_eq_getElem h]
      exact List.getElem_mem h
    have := List.sizeOf_lt_of_mem hm
    rw [J.mk.sizeOf_spec]
    omega
def Keep (w w' : World) : Prop := Below w.heap.size w w'
theorem Keep.refl (w : World) : Keep w w := Below.refl _ _
theorem Keep.trans {a b c : World} (h : Keep a b) (k : Keep b c) : Keep a c := Below.trans h (Below.mono k h.size)
theorem Keep.drewN {a b : World} (h : Keep a b) (q : Nat) : Keep a (b.drewN q) := ⟨h.os, h.tape, h.output, h.size, h.block⟩
theorem Keep.drew {a b : World} (h : Keep a b) : Keep a b.drew := Below.drew h
theorem Keep.alloc {a b : World} (h : Keep a b) (o : Obj) : Keep a (b.alloc o) := Below.alloc h h.size o
theorem Keep.le {a b : World} (h : Keep a b) : a.heap.size ≤ b.heap.size := h.size
/-- Texts that can be read. -/
def RdS (w : World) (a : Option Addr) (l : List ByteArray) : Prop :=
  ∀ j, j < l.length → ∃ b o, a = some ⟨b, o, none⟩ ∧ w.cell? ⟨b, o + j, none⟩ = some (.string (l.getD j ByteArray.empty))
/-- A value that reads as a Json value, in all its depth. -/
inductive RdV (w : World) : Value → J → Prop where
  | mk (k : Nat) (t : ByteArray) (ns : List ByteArray) (is : List J) (an : Option Addr) (cn : Nat) (ai : Option Addr) (ci : Nat) (X : Nat → Value × Value × Value × Value)
      (hk : k < 256) (hn : RdS w an ns) (ln : ns.length ≤ 140737488355328) (li : is.length ≤ 140737488355328)
      (hx : ∀ i, i < is.length → ∃ b o, ai = some ⟨b, o, none⟩ ∧ w.cell? ⟨b, o + i * 4, none⟩ = some (X i).1 ∧ w.cell? ⟨b, o + i * 4 + 1, none⟩ = some (X i).2.1 ∧ w.cell? ⟨b, o + i * 4 + 2, none⟩ = some (X i).2.2.1 ∧ w.cell? ⟨b, o + i * 4 + 3, none⟩ = some (X i).2.2.2)
      (hr : ∀ i, i < is.length → RdV w (.agg #[(X i).1, (X i).2.1, (X i).2.2.1, (X i).2.2.2]) (is.getD i j0)) :
      RdV w (.agg #[.int .u8 (k : Nat), .string t, .slice an ns.length cn, .slice ai is.length ci]) (.mk k t ns is)
theorem Keep.cell {a b : World} (h : Keep a b) {p : Addr} {v : Value} (hc : a.cell? p = some v) : b.cell? p = some v :=
  (Below.cell h (World.block_lt_of_cell? a p hc)).trans hc
theorem RdS.keep {w w' : World} {a : Option Addr} {l : List ByteArray} (h : RdS w a l) (k : Keep w w') : RdS w' a l := by
  intro j hj
  obtain ⟨b, o, e, hc⟩ := h j hj
  exact ⟨b, o, e, k.cell hc⟩
theorem RdV.keep {w w' : World} {v : Value} {j : J} (h : RdV w v j) (k : Keep w w') : RdV w' v j := by
  induction h with
  | mk kk t ns is an cn ai ci X hk hn ln li hx hr ih =>
    refine RdV.mk kk t ns is an cn ai ci X hk (hn.keep k) ln li ?_ ih
    intro i hi
    obtain ⟨b, o, e, h1, h2, h3, h4⟩ := hx i hi
    exact ⟨b, o, e, k.cell h1, k.cell h2, k.cell h3, k.cell h4⟩
end Go.Proofs.Ytlfkdmddlnekiaa
