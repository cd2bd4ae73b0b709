import Derived.Test.YtpogipmamciciaaDoorProg
import Derived.Test.YtpogipmamciciaaDoorF0
import Derived.WalkKit
import Derived.WalkSpells
import Derived.WalkLawsBesides
import Derived.Deep.Draws
import Derived.Deep.QuietTactic
import Derived.BigQuiet
import Derived.Laws.Externs
import Derived.Laws.CopyOwn
import Derived.Shelf.Abstract
import Derived.Deep.RegionLaw
import Derived.BigRegion
import Derived.Deep.RegionHeld3
import Derived.Maps.OwnSet
import Derived.StringKeys
set_option linter.unusedVariables false
set_option linter.unusedSimpArgs false
namespace Go.Proofs.YtpogipmamciciaaDoor
open Go.RowKit Go.Shelf Go.Maps
theorem run_makeMapN (n : Int) (w : World) : (Instr.makeMap 54 (some (.int .i64 n))).run Tryd.prog w = .ok (.map (some w.heap.size)) (w.alloc (.map #[] 0)) := by
  simp [Instr.makeMap, asInt, run_underlying Tryd.underlying54]
  rfl
theorem K9 : Keyed Tryd.prog 9 := string_keyed Tryd.underlying9
theorem key9 {s : ByteArray} (hs : s.size ≤ 281474976710656) : keyOf Tryd.prog 9 (.string s) = some (.string s.data.toList) := WideMaps.keyOf_string_mk Tryd.underlying9 (by simp only [maxLen]; omega)
theorem lit_ne {s s' : ByteArray} (h : s ≠ s') : Lit.string s.data.toList ≠ Lit.string s'.data.toList := by
  intro e
  simp only [Lit.string.injEq] at e
  exact h (ByteArray.ext (Array.toList_inj.mp e))
theorem zero101 (w : World) : (zeroValue 55).run Tryd.prog w = .ok (.agg #[]) w := by kernel_rfl
theorem zero3 (w : World) : (zeroValue 3).run Tryd.prog w = .ok (.int .i64 0) w := by kernel_rfl
/-- Is a text among some? -/
def inSet (s : ByteArray) (l : List ByteArray) : Bool := l.any fun x => decide (x = s)
/-- A set of texts. -/
def SetM (w : World) (b n : Nat) (l : List ByteArray) : Prop := ∃ D : DataW Unit, w.ownsMap Tryd.prog 9 unitElem b n D ∧ ∀ s : ByteArray, Maps.has D (.string s.data.toList) = inSet s l
theorem SetM.made (w : World) : SetM (w.alloc (.map #[] 0)) w.heap.size 0 [] := ⟨.map [], World.ownsMap_made _ _ _ _, fun s => rfl⟩
theorem SetM.same {w w' : World} {b n : Nat} {l : List ByteArray} (h : SetM w b n l) (e : w'.heap[b]? = w.heap[b]?) : SetM w' b n l := by
  obtain ⟨D, ⟨es, clock, hb, r⟩, hh⟩ := h
  exact ⟨D, ⟨es, clock, e.trans hb, r⟩, hh⟩
theorem SetM.lt {w : World} {b n : Nat} {l : List ByteArray} (h : SetM w b n l) : b < w.heap.size := by
  obtain ⟨D, h1, -⟩ := h
  exact h1.lt
theorem SetM.keep {w w' : World} {b n : Nat} {l : List ByteArray} (h : SetM w b n l) (k : Keep w w') : SetM w' b n l := h.same (k.block b h.lt)
theorem SetM.look {w : World} {b n : Nat} {l : List ByteArray} (h : SetM w b n l) {s : ByteArray} (hs : s.size ≤ 281474976710656) : (Instr.lookup 54 (.map (some b)) (.string s) true).run Tryd.prog w = .ok (.tuple #[.agg #[], .bool (inSet s l)]) w := by
  obtain ⟨D, h1, hh⟩ := h
  obtain ⟨v, ps, hrun, hv⟩ := h1.look_ok K9 Tryd.underlying54 (zero101 w) unitElem_mk (key9 hs)
  obtain ⟨rfl, -⟩ := unitElem_inv hv
  rw [hrun, hh s]
theorem SetM.put {w : World} {b n : Nat} {l : List ByteArray} (h : SetM w b n l) (hn : n ≤ 281474976710656) {s : ByteArray} (hs : s.size ≤ 281474976710656) : ∃ w', (Instr.mapUpdate 54 (.map (some b)) (.string s) (.agg #[])).run Tryd.prog w = .ok () w' ∧ SetM w' b (n + 1) (s :: l) ∧ w.grownBy w' (some b) := by
  obtain ⟨D, h1, hh⟩ := h
  have hm := h1.isMap
  obtain ⟨w', hrun, h2, h3⟩ := h1.update K9 Tryd.underlying54 (by simp only [maxLen]; omega) (key9 hs) unitElem_mk
  refine ⟨w', hrun, ⟨_, h2, fun s' => ?_⟩, h3⟩
  by_cases e : s = s'
  · subst e
    rw [has_put_same hm (k := .string s.data.toList) (show WideAt.IsKeyLit (.string s.data.toList) from trivial)]
    simp [inSet]
  · rw [has_put_other (lit_ne (Ne.symm e)), hh s']
    have e' : inSet s' (s :: l) = inSet s' l := by unfold inSet; rw [List.any_cons, decide_eq_false e, Bool.false_or]
    rw [e']
/-- Texts that stand in a map as 1. -/
def CntM (w : World) (b n : Nat) (l : List ByteArray) : Prop := ∃ D : DataW Unit, w.ownsMap Tryd.prog 9 (plainElem Tryd.prog 3) b n D ∧ ∀ s : ByteArray, D.atKey (.string s.data.toList) (.lit (.int .i64 0)) = .lit (.int .i64 (if inSet s l = true then 1 else 0))
theorem CntM.made (w : World) : CntM (w.alloc (.map #[] 0)) w.heap.size 0 [] := ⟨.map [], World.ownsMap_made _ _ _ _, fun s => rfl⟩
theorem CntM.same {w w' : World} {b n : Nat} {l : List ByteArray} (h : CntM w b n l) (e : w'.heap[b]? = w.heap[b]?) : CntM w' b n l := by
  obtain ⟨D, ⟨es, clock, hb, r⟩, hh⟩ := h
  exact ⟨D, ⟨es, clock, e.trans hb, r⟩, hh⟩
theorem CntM.lt {w : World} {b n : Nat} {l : List ByteArray} (h : CntM w b n l) : b < w.heap.size := by
  obtain ⟨D, h1, -⟩ := h
  exact h1.lt
end Go.Proofs.YtpogipmamciciaaDoor
