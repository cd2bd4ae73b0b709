import Derived.Test.YtodegcobkngmlaaGreatDoorProg
import Derived.Test.YtodegcobkngmlaaGreatDoorCS3
import Derived.WalkKit
import Derived.WalkSpells
import Derived.WalkLawsBesides
import Derived.Deep.Draws
import Derived.Deep.QuietTactic
import Derived.BigQuiet
import Derived.Laws.Externs
import Derived.Laws.CopyOwn
import Derived.Shelf.Abstract
import Derived.Deep.RegionLaw
import Derived.BigRegion
import Derived.Deep.RegionHeld3
import Derived.RangeFuncBox
import Derived.RangeFuncLeaves
import Derived.RangeFuncCalls
import Derived.RangeFuncRecord
import Derived.Below
import Derived.OwnWalkIn
import Derived.TacticsInMore
import Derived.LoopNIn
import Derived.LoopIn
import Derived.Sort.LoopGhostIn
import Derived.Deep.RegionWith
import Derived.Stop.RegionWithIn
import Derived.Laws.MathBits
import Derived.Maps.OwnSet
import Derived.StringKeys
import Derived.RegionTactic
import Derived.Orders
import Derived.OrdersIn
import Derived.RegionIn
import Ieee.Arith
import Derived.Laws.StructEq
import Derived.Lib.BufferWrite
import Derived.Lib.UnsafeStr
import Derived.Laws.MakeOwn
import Derived.Test.YtodegcobkngmlaaGreatDoorW3
set_option linter.unusedVariables false
set_option linter.unusedSimpArgs false
namespace Go.Proofs.YtodegcobkngmlaaGreatDoor
open Go.RowKit Go.Shelf
/-- Bounds as cells. -/
def VB : List (Int × Int) → List Value
  | [] => []
  | r :: l => .int .i64 r.1 :: .int .i64 r.2 :: VB l
theorem VB_len : ∀ l, (VB l).length = l.length * 2
  | [] => rfl
  | r :: l => by simp [VB, VB_len l]; omega
theorem VB_lo : ∀ (l : List (Int × Int)) (j : Nat), j < l.length → (VB l)[j * 2]? = some (.int .i64 (l.getD j (0, 0)).1)
  | [], j, h => by simp at h
  | r :: l, 0, _ => rfl
  | r :: l, j + 1, h => by
    rw [show (j + 1) * 2 = j * 2 + 1 + 1 by omega, VB, List.getElem?_cons_succ, List.getElem?_cons_succ, VB_lo l j (by simpa using h)]
    rfl
theorem VB_hi : ∀ (l : List (Int × Int)) (j : Nat), j < l.length → (VB l)[j * 2 + 1]? = some (.int .i64 (l.getD j (0, 0)).2)
  | [], j, h => by simp at h
  | r :: l, 0, _ => rfl
  | r :: l, j + 1, h => by
    rw [show (j + 1) * 2 + 1 = j * 2 + 1 + 1 + 1 by omega, VB, List.getElem?_cons_succ, List.getElem?_cons_succ, VB_hi l j (by simpa using h)]
    rfl
theorem VB_set : ∀ (l : List (Int × Int)) (j : Nat) (x y : Int), j < l.length → ((VB l).set (j * 2) (.int .i64 x)).set (j * 2 + 1) (.int .i64 y) = VB (l.set j (x, y))
  | [], j, x, y, h => by simp at h
  | r :: l, 0, x, y, _ => rfl
  | r :: l, j + 1, x, y, h => by
    have := VB_set l j x y (by simpa using h)
    rw [show (j + 1) * 2 + 1 = j * 2 + 1 + 1 + 1 by omega, show (j + 1) * 2 = j * 2 + 1 + 1 by omega, VB, List.set_cons_succ, List.set_cons_succ, List.set_cons_succ, List.set_cons_succ, List.set_cons_succ, VB, this]
theorem VB_put (l : List (Int × Int)) (j : Nat) (x y : Int) (h : j < l.length) : (((VB l).toArray.setIfInBounds (j * 2) (.int .i64 x)).setIfInBounds (j * 2 + 1) (.int .i64 y)) = (VB (l.set j (x, y))).toArray := by
  rw [List.setIfInBounds_toArray, List.setIfInBounds_toArray, VB_set l j x y h]
theorem VB_rep : ∀ n, VB (List.replicate n (0, 0)) = List.replicate (n * 2) (.int .i64 0)
  | 0 => rfl
  | n + 1 => by rw [List.replicate_succ, VB, VB_rep n, show (n + 1) * 2 = n * 2 + 1 + 1 by omega, List.replicate_succ, List.replicate_succ]
theorem VB_zero (n : Nat) : (madeCells (Value.agg #[.int .i64 0, .int .i64 0]).cells (n * 2)) = (VB (List.replicate n (0, 0))).toArray := by
  rw [VB_rep]
  have hc : (Value.agg #[.int .i64 0, .int .i64 0]).cells = #[Value.int .i64 0, .int .i64 0] := by rfl
  rw [hc]
  apply Array.ext
  · simp [madeCells]
  · intro i h1 h2
    simp only [madeCells, Array.getElem_map, Array.getElem_range, List.getElem_toArray, List.getElem_replicate]
    have : i % 2 = 0 ∨ i % 2 = 1 := by omega
    rcases this with h | h <;> simp [h]
theorem made_bounds (n : Nat) (hn : n ≤ 1000) (w : World) : (Instr.makeSlice 40 (.int .i64 (n : Int)) (.int .i64 (n : Int))).run Tryz.prog w = .ok (.slice (some ⟨w.heap.size, 0, none⟩) n n) (w.alloc (.cells (VB (List.replicate n (0, 0))).toArray 42)) := by
  have i37 : (Tryz.prog.info? 42).map (fun i => (i.zero, i.size, i.bytes)) = some (some (.agg #[.int .i64 0, .int .i64 0]), 2, 16) := by kernel_rfl
  obtain ⟨i0, hi, hz0, hz1, hz2⟩ := info_parts i37
  have h := run_make (P := Tryz.prog) w 40 42 i0 _ Tryz.underlying40 hi hz0 .i64 .i64 (n : Int) (n : Int) (by omega) (by omega) (by rw [hz2]; omega) (by omega)
  rw [hz1] at h
  simp only [Int.toNat_natCast] at h
  rw [VB_zero] at h
  exact h
end Go.Proofs.YtodegcobkngmlaaGreatDoor
set_option linter.unusedVariables false
set_option linter.unusedSimpArgs false
namespace Go.Proofs.YtodegcobkngmlaaGreatDoor
open Go.RowKit Go.Shelf
abbrev v0 : List Nd → Int := fun _ => 0
theorem boS_snoc (lo : Bool) (o : Int) (t : Int × List Nd) : ∀ l, boS lo v0 o 0 (l ++ [t]) = boS lo v0 o 0 l + (if t.1 = o then (if lo = true then (sp t.2).1 else (sp t.2).2) else 0)
  | [] => by simp [boS]
  | x :: l => by rw [List.cons_append, boS, boS, boS_snoc lo o t l]; omega
/-- The spans ahead of all trees, by the first k of these. -/
def ahL (base : List Int) (ts : List (Int × List Nd)) (k : Nat) : List (Int × Int) := (List.range base.length).map fun o => (base.getD o 0 + boS true v0 (o : Int) 0 (ts.take k), base.getD o 0 + boS false v0 (o : Int) 0 (ts.take k))
theorem ahL_len (base : List Int) (ts : List (Int × List Nd)) (k : Nat) : (ahL base ts k).length = base.length := by simp [ahL]
theorem ahL_at (base : List Int) (ts : List (Int × List Nd)) (k o : Nat) (h : o < base.length) : (ahL base ts k).getD o (0, 0) = (base.getD o 0 + boS true v0 (o : Int) 0 (ts.take k), base.getD o 0 + boS false v0 (o : Int) 0 (ts.take k)) := by simp [ahL, List.getD, h]
theorem ahL_next (base : List Int) (ts : List (Int × List Nd)) (k q : Nat) (hk : k < ts.length) (hq : (ts.getD k (0, [])).1 = (q : Int)) (hl : q < base.length) :
    (ahL base ts k).set q (((ahL base ts k).getD q (0, 0)).1 + (sp (ts.getD k (0, [])).2).1, ((ahL base ts k).getD q (0, 0)).2 + (sp (ts.getD k (0, [])).2).2) = ahL base ts (k + 1) := by
  have ht : ts.take (k + 1) = ts.take k ++ [ts.getD k (0, [])] := by
    rw [List.take_succ_eq_append_getElem hk]
    simp [List.getD, hk]
  apply List.ext_getElem?
  intro o
  by_cases ho : o < base.length
  · rw [ahL_at base ts k q hl]
    have e : (ahL base ts (k + 1))[o]? = some ((ahL base ts (k + 1)).getD o (0, 0)) := by
      have : o < (ahL base ts (k + 1)).length := by rw [ahL_len]; exact ho
      simp [List.getD, this]
    have e' : (ahL base ts k)[o]? = some ((ahL base ts k).getD o (0, 0)) := by
      have : o < (ahL base ts k).length := by rw [ahL_len]; exact ho
      simp [List.getD, this]
    rw [e, ahL_at base ts (k + 1) o ho, ht, boS_snoc, boS_snoc, hq]
    by_cases hoq : o = q
    · subst hoq
      rw [List.getElem?_set_self (by rw [ahL_len]; exact ho), if_pos rfl, if_pos rfl]
      simp only [if_true, Bool.false_eq_true, if_false]
      congr 2 <;> omega
    · rw [List.getElem?_set_ne (fun h => hoq h.symm), e', ahL_at base ts k o ho, if_neg (by omega), if_neg (by omega)]
      simp
  · rw [List.getElem?_eq_none (by rw [List.length_set, ahL_len]; omega), List.getElem?_eq_none (by rw [ahL_len]; omega)]
theorem rsum_take (o : Int) (ts : List (Int × List Nd)) (k : Nat) : rsum o (ts.take k) ≤ rsum o ts := rsum_sub (List.take_sublist k ts)
/-- No sum on the way wraps. -/
theorem ahL_fit {base : List Int} {ts : List (Int × List Nd)} (k o : Nat) (h : o < base.length) (hr : rm base ts o < 4611686018427387904) : ((ahL base ts k).getD o (0, 0)).1.natAbs < 4611686018427387904 ∧ ((ahL base ts k).getD o (0, 0)).2.natAbs < 4611686018427387904 := by
  rw [ahL_at base ts k o h]
  rw [rm_sum] at hr
  have h1 := boS_abs true v0 (o : Int) (ts.take k) 0 (fun t _ => by simp)
  have h2 := boS_abs false v0 (o : Int) (ts.take k) 0 (fun t _ => by simp)
  have h3 := rsum_take (o : Int) ts k
  simp only
  omega
theorem ahL_zero {base : List Int} {ts : List (Int × List Nd)} {l : List (Int × Int)} (hl : l.length = base.length) (h : ∀ j, j < base.length → l.getD j (0, 0) = (base.getD j 0, base.getD j 0)) : l = ahL base ts 0 := by
  apply List.ext_getElem?
  intro o
  by_cases ho : o < base.length
  · have e : (ahL base ts 0)[o]? = some ((ahL base ts 0).getD o (0, 0)) := by
      have : o < (ahL base ts 0).length := by rw [ahL_len]; exact ho
      simp [List.getD, this]
    have e' : l[o]? = some (l.getD o (0, 0)) := by simp [List.getD, show o < l.length by omega]
    rw [e, e', h o ho, ahL_at base ts 0 o ho]
    simp [boS]
  · rw [List.getElem?_eq_none (by omega), List.getElem?_eq_none (by rw [ahL_len]; omega)]
end Go.Proofs.YtodegcobkngmlaaGreatDoor
