import Derived.Test.YtodegcobkngmlaaDoorProg
import Derived.Test.YtodegcobkngmlaaDoorA2
import Derived.WalkKit
import Derived.WalkSpells
import Derived.WalkLawsBesides
import Derived.Deep.Draws
import Derived.Deep.QuietTactic
import Derived.BigQuiet
import Derived.Laws.Externs
import Derived.Laws.CopyOwn
import Derived.Shelf.Abstract
import Derived.Deep.RegionLaw
import Derived.BigRegion
import Derived.Deep.RegionHeld3
import Derived.RangeFuncBox
import Derived.RangeFuncLeaves
import Derived.RangeFuncCalls
import Derived.RangeFuncRecord
import Derived.Below
import Derived.OwnWalkIn
import Derived.TacticsInMore
import Derived.LoopNIn
import Derived.LoopIn
import Derived.Sort.LoopGhostIn
import Derived.Deep.RegionWith
import Derived.Stop.RegionWithIn
import Derived.Laws.MathBits
import Derived.Maps.OwnSet
import Derived.StringKeys
import Derived.RegionTactic
import Derived.Orders
import Derived.OrdersIn
import Derived.RegionIn
import Ieee.Arith
import Derived.Laws.StructEq
import Derived.Lib.BufferWrite
import Derived.Lib.UnsafeStr
set_option linter.unusedVariables false
set_option linter.unusedSimpArgs false
namespace Go.Proofs.YtodegcobkngmlaaDoor
/-- From the least to the greatest value of the leaves. -/
def spF (L : List Nd) : Nat → Nat → Bool → Int → Int → Int × Int
  | 0, _, _, a, b => (a, b)
  | f + 1, k, m, a, b => if (L.getD k nd0).kd = 1 then (if m = true then spF L f (k + 1) true (min a (L.getD k nd0).vl) (max b (L.getD k nd0).vl) else spF L f (k + 1) true (L.getD k nd0).vl (L.getD k nd0).vl) else spF L f (k + 1) m a b
def sp (L : List Nd) : Int × Int := spF L L.length 0 false 0 0
theorem spF_wide {L : List Nd} : ∀ (f k : Nat) (a b : Int), a ≤ b → (spF L f k true a b).1 ≤ a ∧ b ≤ (spF L f k true a b).2
  | 0, k, a, b, _ => ⟨Int.le_refl _, Int.le_refl _⟩
  | f + 1, k, a, b, h => by
    rw [spF]
    split
    · rw [if_pos rfl]
      have := spF_wide (L := L) f (k + 1) (min a (L.getD k nd0).vl) (max b (L.getD k nd0).vl) (by omega)
      omega
    · exact spF_wide f (k + 1) a b h
theorem spF_leaf {L : List Nd} : ∀ (f k : Nat) (m : Bool) (a b : Int), a ≤ b → ∀ i, k ≤ i → i < k + f → (L.getD i nd0).kd = 1 → (spF L f k m a b).1 ≤ (L.getD i nd0).vl ∧ (L.getD i nd0).vl ≤ (spF L f k m a b).2
  | 0, k, m, a, b, _, i, h1, h2, _ => by omega
  | f + 1, k, m, a, b, h, i, h1, h2, h3 => by
    rw [spF]
    by_cases e : i = k
    · subst e
      rw [if_pos h3]
      split
      · have := spF_wide (L := L) f (i + 1) (min a (L.getD i nd0).vl) (max b (L.getD i nd0).vl) (by omega)
        omega
      · exact spF_wide (L := L) f (i + 1) _ _ (Int.le_refl _)
    · split
      · split
        · exact spF_leaf f (k + 1) true _ _ (by omega) i (by omega) (by omega) h3
        · exact spF_leaf f (k + 1) true _ _ (Int.le_refl _) i (by omega) (by omega) h3
      · exact spF_leaf f (k + 1) m a b h i (by omega) (by omega) h3
theorem sp_leaf {L : List Nd} {i : Nat} (hi : i < L.length) (h : (L.getD i nd0).kd = 1) : (sp L).1 ≤ (L.getD i nd0).vl ∧ (L.getD i nd0).vl ≤ (sp L).2 := spF_leaf _ _ _ _ _ (Int.le_refl _) i (by omega) (by omega) h
theorem spF_abs {L : List Nd} {B : Nat} : ∀ (f k : Nat) (m : Bool) (a b : Int), a.natAbs ≤ B → b.natAbs ≤ B → (∀ i, k ≤ i → i < k + f → (L.getD i nd0).kd = 1 → (L.getD i nd0).vl.natAbs ≤ B) → (spF L f k m a b).1.natAbs ≤ B ∧ (spF L f k m a b).2.natAbs ≤ B
  | 0, k, m, a, b, ha, hb, _ => ⟨ha, hb⟩
  | f + 1, k, m, a, b, ha, hb, h => by
    rw [spF]
    split
    · rename_i hk
      have := h k (by omega) (by omega) hk
      split
      · exact spF_abs f (k + 1) true _ _ (by omega) (by omega) fun i h1 h2 => h i (by omega) (by omega)
      · exact spF_abs f (k + 1) true _ _ this this fun i h1 h2 => h i (by omega) (by omega)
    · exact spF_abs f (k + 1) m a b ha hb fun i h1 h2 => h i (by omega) (by omega)
theorem sp_abs (L : List Nd) : (sp L).1.natAbs ≤ lg L ∧ (sp L).2.natAbs ≤ lg L := spF_abs _ _ _ _ _ (by simp) (by simp) fun i _ h2 h3 => lg_ge (by omega) h3
theorem spF_le {L : List Nd} : ∀ (f k : Nat) (m : Bool) (a b : Int), a ≤ b → (spF L f k m a b).1 ≤ (spF L f k m a b).2
  | 0, k, m, a, b, h => h
  | f + 1, k, m, a, b, h => by
    rw [spF]
    split
    · split
      · exact spF_le f (k + 1) true _ _ (by omega)
      · exact spF_le f (k + 1) true _ _ (Int.le_refl _)
    · exact spF_le f (k + 1) m a b h
theorem sp_le (L : List Nd) : (sp L).1 ≤ (sp L).2 := spF_le _ _ _ _ _ (Int.le_refl _)
/-- What the trees add to an output's Low and High, the first k by what they say (v). -/
def boS (lo : Bool) (v : List Nd → Int) (o : Int) : Nat → List (Int × List Nd) → Int
  | _, [] => 0
  | 0, t :: l => (if t.1 = o then (if lo = true then (sp t.2).1 else (sp t.2).2) else 0) + boS lo v o 0 l
  | k + 1, t :: l => (if t.1 = o then v t.2 else 0) + boS lo v o k l
theorem boS_step (lo : Bool) (v : List Nd → Int) (o : Int) : ∀ (ts : List (Int × List Nd)) (k : Nat), k < ts.length → boS lo v o (k + 1) ts = boS lo v o k ts + (if (ts.getD k (0, [])).1 = o then v (ts.getD k (0, [])).2 - (if lo = true then (sp (ts.getD k (0, [])).2).1 else (sp (ts.getD k (0, [])).2).2) else 0)
  | [], k, h => by simp at h
  | t :: ts, 0, h => by
    simp only [boS, List.getD_cons_zero]
    split <;> omega
  | t :: ts, k + 1, h => by
    rw [boS, boS, boS_step lo v o ts k (by simpa using h), List.getD_cons_succ]
    omega
theorem boS_abs (lo : Bool) (v : List Nd → Int) (o : Int) : ∀ (ts : List (Int × List Nd)) (k : Nat), (∀ t ∈ ts, (v t.2).natAbs ≤ lg t.2) → (boS lo v o k ts).natAbs ≤ rsum o ts
  | [], k, _ => by cases k <;> simp [boS, rsum]
  | t :: ts, 0, h => by
    have := boS_abs lo v o ts 0 fun x hx => h x (List.mem_cons_of_mem _ hx)
    have := sp_abs t.2
    rw [boS, rsum, wo1]
    split
    · split <;> omega
    · omega
  | t :: ts, k + 1, h => by
    have := boS_abs lo v o ts k fun x hx => h x (List.mem_cons_of_mem _ hx)
    have := h t (by simp)
    rw [boS, rsum, wo1]
    split <;> omega
theorem boS_all (lo : Bool) (v : List Nd → Int) (o : Int) : ∀ (ts : List (Int × List Nd)) (k : Nat), ts.length ≤ k → boS lo v o k ts = boS true v o ts.length ts
  | [], k, _ => by cases k <;> rfl
  | t :: ts, 0, h => by simp at h
  | t :: ts, k + 1, h => by
    rw [boS, List.length_cons, boS, boS_all lo v o ts k (by simpa using h)]
theorem boS_rise (v : List Nd → Int) (o : Int) (ts : List (Int × List Nd)) (hv : ∀ t ∈ ts, (sp t.2).1 ≤ v t.2 ∧ v t.2 ≤ (sp t.2).2) (k : Nat) (hk : k < ts.length) : boS true v o k ts ≤ boS true v o (k + 1) ts ∧ boS false v o (k + 1) ts ≤ boS false v o k ts := by
  rw [boS_step true v o ts k hk, boS_step false v o ts k hk]
  have := hv (ts.getD k (0, [])) (by simp [List.getD, hk])
  simp only [if_true, Bool.false_eq_true, if_false]
  split <;> omega
theorem boS_le (v : List Nd → Int) (o : Int) : ∀ (ts : List (Int × List Nd)) (k : Nat), boS true v o k ts ≤ boS false v o k ts
  | [], k => by cases k <;> exact Int.le_refl _
  | t :: ts, 0 => by
    have := boS_le v o ts 0
    have := sp_le t.2
    rw [boS, boS]
    simp only [if_true, Bool.false_eq_true, if_false]
    split <;> omega
  | t :: ts, k + 1 => by
    have := boS_le v o ts k
    rw [boS, boS]
    omega
end Go.Proofs.YtodegcobkngmlaaDoor
