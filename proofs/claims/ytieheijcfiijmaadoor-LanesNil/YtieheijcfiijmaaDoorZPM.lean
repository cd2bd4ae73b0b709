import Derived.Test.YtieheijcfiijmaaDoorProg
import Derived.Test.YtieheijcfiijmaaDoorZY4
import Derived.Test.YtieheijcfiijmaaDoorZY5
import Derived.Deep.RegionLaw
import Derived.Shelf.Abstract
import Derived.Below
import Derived.WalkKit
import Derived.WalkSpells
import Derived.WalkLawsBesides
import Derived.Deep.Draws
import Derived.Deep.QuietTactic
import Derived.BigQuiet
import Derived.Laws.Externs
import Derived.Laws.CopyOwn
import Derived.BigRegion
import Derived.Laws.BitsAll
import Derived.Deep.RegionHeld3
import Derived.Deep.Cut
set_option linter.unusedVariables false
set_option linter.unusedSimpArgs false
namespace Go.Proofs.YtieheijcfiijmaaDoor
open Go.RowKit Go.Shelf
/-- Cell q of group j. -/
def pkC (V : List (List Nat)) (j q : Nat) : Nat := (V.getD (min (8 * j + q % 8) (V.length - 1)) []).getD (q / 8) 0
/-- A row by what stands at each place. -/
def tab (n : Nat) (f : Nat → Nat) : List Nat := (List.range n).map f
theorem tab_len (n : Nat) (f : Nat → Nat) : (tab n f).length = n := by simp [tab]
theorem tab_congr {n : Nat} {f g : Nat → Nat} (h : ∀ i, i < n → f i = g i) : tab n f = tab n g := by
  unfold tab; exact List.map_congr_left fun i hi => h i (List.mem_range.1 hi)
theorem tab_set (n : Nat) (f : Nat → Nat) (j x : Nat) : (tab n f).set j x = tab n (fun i => if i = j then x else f i) := by
  apply List.ext_getElem
  · simp [tab]
  · intro i h1 h2
    simp only [tab, List.getElem_set, List.getElem_map, List.getElem_range]
    by_cases e : j = i
    · subst e; simp
    · simp [e, Ne.symm e]
def pk (V : List (List Nat)) (d : Nat) : List (List Nat) := (List.range (many V.length)).map (fun j => tab (d * 8) (pkC V j))
theorem pk_len (V : List (List Nat)) (d : Nat) : (pk V d).length = many V.length := by simp [pk]
theorem pk_get (V : List (List Nat)) (d j : Nat) (h : j < many V.length) : (pk V d).getD j [] = tab (d * 8) (pkC V j) := by simp [pk, List.getD, h]
theorem pk_take (V : List (List Nat)) (d j : Nat) (h : j < many V.length) : (pk V d).take (j + 1) = (pk V d).take j ++ [tab (d * 8) (pkC V j)] := by
  rw [List.take_succ_eq_append_getElem (by rw [pk_len]; exact h)]
  simp [pk]
/-- The lanes that are laid, f of them. -/
def lnK (V : List (List Nat)) (d j f : Nat) : List Nat := tab (d * 8) (fun q => if q < f * 8 then pkC V j q else 0)
theorem lnK_zero (V : List (List Nat)) (d j : Nat) : lnK V d j 0 = List.replicate (d * 8) 0 := by
  unfold lnK tab
  apply List.ext_getElem
  · simp
  · intro i h1 h2; simp
theorem lnK_done (V : List (List Nat)) (d j : Nat) : lnK V d j d = tab (d * 8) (pkC V j) := tab_congr fun i hi => by rw [if_pos hi]
theorem lnK_len (V : List (List Nat)) (d j f : Nat) : (lnK V d j f).length = d * 8 := tab_len _ _
/-- The vectors of a group. -/
def grp (V : List (List Nat)) (j : Nat) : List (List Nat) := (V.drop (8 * j)).take 8
theorem grp_len (V : List (List Nat)) (j : Nat) : (grp V j).length = min 8 (V.length - 8 * j) := by simp [grp]
theorem grp_get (V : List (List Nat)) (j i : Nat) (hi : i < (grp V j).length) : (grp V j).getD i [] = V.getD (8 * j + i) [] := by
  rw [grp_len] at hi
  simp [grp, List.getD, List.getElem?_take, List.getElem?_drop, show i < 8 by omega]
theorem lane_pk (V : List (List Nat)) (j f i : Nat) (hj : 8 * j < V.length) (hi : i < 8) : ((grp V j).getD (min i ((grp V j).length - 1)) []).getD f 0 = pkC V j (f * 8 + i) := by
  have hg := grp_len V j
  rw [grp_get V j _ (by omega)]
  unfold pkC
  have e1 : 8 * j + min i ((grp V j).length - 1) = min (8 * j + (f * 8 + i) % 8) (V.length - 1) := by omega
  have e2 : (f * 8 + i) / 8 = f := by omega
  rw [e1, e2]
theorem lnK_next (V : List (List Nat)) (d j f : Nat) (X : Nat → Nat) (hf : f < d) (hX : ∀ i, i < 8 → X i = pkC V j (f * 8 + i)) :
    ((((((((lnK V d j f).set (f * 8) (X 0)).set (f * 8 + 1) (X 1)).set (f * 8 + 2) (X 2)).set (f * 8 + 3) (X 3)).set (f * 8 + 4) (X 4)).set (f * 8 + 5) (X 5)).set (f * 8 + 6) (X 6)).set (f * 8 + 7) (X 7) = lnK V d j (f + 1) := by
  unfold lnK
  simp only [tab_set]
  refine tab_congr fun q hq => ?_
  rw [hX 0 (by omega), hX 1 (by omega), hX 2 (by omega), hX 3 (by omega), hX 4 (by omega), hX 5 (by omega), hX 6 (by omega), hX 7 (by omega)]
  by_cases h1 : q < f * 8
  · rw [if_neg (by omega), if_neg (by omega), if_neg (by omega), if_neg (by omega), if_neg (by omega), if_neg (by omega), if_neg (by omega), if_neg (by omega), if_pos h1, if_pos (by omega)]
  · by_cases h2 : q < (f + 1) * 8
    · rw [if_pos h2]
      have : q = f * 8 ∨ q = f * 8 + 1 ∨ q = f * 8 + 2 ∨ q = f * 8 + 3 ∨ q = f * 8 + 4 ∨ q = f * 8 + 5 ∨ q = f * 8 + 6 ∨ q = f * 8 + 7 := by omega
      rcases this with rfl | rfl | rfl | rfl | rfl | rfl | rfl | rfl <;> simp
    · rw [if_neg (by omega), if_neg (by omega), if_neg (by omega), if_neg (by omega), if_neg (by omega), if_neg (by omega), if_neg (by omega), if_neg (by omega), if_neg h1, if_neg h2]
theorem RdS.grp {w : World} {b o : Nat} {V : List (List Nat)} (h : RdS 1 w (some ⟨b, o, none⟩) V) (j : Nat) : RdS 1 w (some ⟨b, o + 8 * j, none⟩) (grp V j) := by
  intro i hi
  have hg := grp_len V j
  obtain ⟨b1, o1, va, n, vc, e, h1, h2, h3, h4, h5⟩ := h (8 * j + i) (by omega)
  simp only [Option.some.injEq, Addr.mk.injEq, and_true] at e
  obtain ⟨rfl, rfl⟩ := e
  rw [grp_get V j i hi]
  exact ⟨b, o + 8 * j, va, n, vc, rfl, by rw [Nat.add_assoc]; exact h1, h2, h3, h4, h5⟩
theorem i35 : (Tryd.prog.info? 59).map (fun i => (i.zero, i.size, i.bytes)) = some (some (.agg #[.float .f64 0, .float .f64 0, .float .f64 0, .float .f64 0, .float .f64 0, .float .f64 0, .float .f64 0, .float .f64 0]), 8, 64) := by kernel_rfl
theorem made35 (n : Nat) : madeCells #[.float .f64 0, .float .f64 0, .float .f64 0, .float .f64 0, .float .f64 0, .float .f64 0, .float .f64 0, .float .f64 0] n = (UF (List.replicate n 0)).toArray := by
  rw [← Array.toList_inj]
  apply List.ext_getElem
  · simp [madeCells, UF]
  · intro i h1 h2
    simp only [madeCells, UF, Array.toList_map, List.map_replicate, List.getElem_map, List.getElem_replicate, Array.toList_range, List.getElem_range]
    have : i % 8 = 0 ∨ i % 8 = 1 ∨ i % 8 = 2 ∨ i % 8 = 3 ∨ i % 8 = 4 ∨ i % 8 = 5 ∨ i % 8 = 6 ∨ i % 8 = 7 := by omega
    simp only [List.size_toArray, List.length_cons, List.length_nil, Nat.zero_add, Nat.reduceAdd]
    rcases this with h | h | h | h | h | h | h | h <;> rw [h] <;> rfl
/-- make([]Lane, n). -/
theorem wpList_make51 (w : World) {ops : Array Oper} {rest : List Oper} {o : Oper} {a : Act} {Q : Exit → Act → World → Prop}
    (hg : o.guard = none) (l c : Operand) (hop : o.op = Op.makeSlice 65 l c) (n : Nat) (hl : a.eval l = .int .i64 (n : Nat)) (hc : a.eval c = .int .i64 (n : Nat)) (hn : n ≤ 65536)
    (hK : ∀ w', RowF 59 w' w.heap.size (List.replicate (n * 8) 0) → Keep w w' → w'.heap.size = w.heap.size + 1 → wpList Tryd.prog ops Q rest (a.put o.dst (.slice (some ⟨w.heap.size, 0, none⟩) n n)) w') :
    wpList Tryd.prog ops Q (o :: rest) a w := by
  refine wpList_plain hg fun K hK' => ?_
  obtain ⟨i, hi, hz0, hz1, hz2⟩ := info_parts i35
  have hr := run_make (P := Tryd.prog) w 65 59 i _ Tryd.underlying65 hi hz0 .i64 .i64 n n (by omega) (by omega) (by rw [hz2]; omega) (by omega)
  rw [hz1] at hr
  unfold Oper.wp
  simp only [Int.toNat_natCast, Value.cells, made35] at hr
  simp [execOp, hop, hl, hc, hr, Result.andThen]
  exact hK' _ _ (hK _ (heap_alloc_new w _) ((Keep.refl w).alloc _) (by simp))
end Go.Proofs.YtieheijcfiijmaaDoor
