import Derived.Test.YtgmnadlmejkkpaaDoorE1
import Derived.Deep.RegionWith
set_option linter.unusedVariables false
set_option linter.unusedSimpArgs false
namespace Go.Proofs.YtgmnadlmejkkpaaDoor
open Go.RowKit
/-- A block of cells of that kind. -/
def RowC (w : World) (g : Nat) (cur : Array Value) : Prop := w.heap[g]? = some (.cells cur 59 (0, 0))
theorem RowC.lt {w : World} {g : Nat} {cur : Array Value} (h : RowC w g cur) : g < w.heap.size := (Array.getElem?_eq_some_iff.1 h).1
theorem RowC.cell {w : World} {g : Nat} {cur : Array Value} (h : RowC w g cur) (j : Nat) : w.cell? ⟨g, j, none⟩ = cur[j]? := cell_of_row w g j cur 59 (0, 0) h
theorem RowC.frozen {w : World} {g : Nat} {cur : Array Value} (h : RowC w g cur) (j : Nat) : w.frozen? ⟨g, j, none⟩ = false := frozen_of_row w g j cur 59 h
theorem RowC.set {w : World} {g : Nat} {cur : Array Value} (h : RowC w g cur) (j : Nat) (v : Value) : RowC (w.setCell ⟨g, j, none⟩ v) g (cur.setIfInBounds j v) := by
  have := heap_setCell_same w g j cur 59 v h
  exact this
theorem RowC.keep {w w' : World} {g : Nat} {cur : Array Value} (h : RowC w g cur) (k : Keep w w') : RowC w' g cur := by
  unfold RowC; rw [k.block g h.lt]; exact h
set_option maxRecDepth 100000 in
set_option maxHeartbeats 400000 in
/-- Into the first one itself. -/
theorem join_self (g c ca cb : Nat) (b : Option Addr) (cur : Array Value) (l m : List Nat) (w : World) (hrow : RowC w g cur) (hcu : ∀ j, j < l.length → cur[j]? = some (.int .u64 (l.getD j 0 : Nat))) (hlm : l.length = m.length) (hl : l.length ≤ 17592186044416) (hb : Rd w b m) (hwl : W64 l) (hwm : W64 m) (ob : Off g b m) :
    Calls Tryd.prog 60 #[.slice (some ⟨g, 0, none⟩) l.length c, .slice (some ⟨g, 0, none⟩) l.length ca, .slice b l.length cb, .func (.func 55) #[] #[]] w fun e w' => e = .returned (.tuple #[]) ∧ Rd w' (some ⟨g, 0, none⟩) (zw (fun x y => x &&& y) l m) ∧ Mut g w w' := by
  have Hlm : Hid (l.length = m.length) := hlm
  have Hcu : Hid (∀ j, j < l.length → cur[j]? = some (.int .u64 (l.getD j 0 : Nat))) := hcu
  clear hlm hcu
  go_enter Tryd.func60, Tryd.ntmps60
  go_wp2_with fail
  go_loopw [11] (fun i wr => ∃ (k : Nat) (rk : Array Value), k ≤ l.length ∧ i = .int .i64 k ∧ RowC wr g rk ∧ Hid (∀ j, j < k → rk[j]? = some (.int .u64 ((zw (fun x y => x &&& y) l m).getD j 0 : Nat))) ∧ Hid (∀ j, k ≤ j → rk[j]? = cur[j]?) ∧ Mut g w wr) (fun i _ => l.length - (intOf i).toNat)
  case atStart => exact ⟨0, cur, by omega, rfl, hrow, fun j hj => absurd hj (by omega), fun _ _ => rfl, Mut.refl _ _⟩
  case round =>
    obtain ⟨k, rk, hkk, rfl, hrk, htk, hrest, hm⟩ := hrel
    by_cases hkl : k < l.length
    · obtain ⟨b2, o2, e2, c2⟩ := (hb.mut hm ob) k (by have := Hlm.out; omega)
      subst e2
      have hx := W64_getD hwl k
      have hy := W64_getD hwm k
      have c1 := hrk.cell k
      rw [hrest.out k (Nat.le_refl _), Hcu.out k hkl] at c1
      have hks : k < rk.size := by
        have := (hrest.out k (Nat.le_refl _)).trans (Hcu.out k hkl)
        exact (Array.getElem?_eq_some_iff.1 this).1
      have Ht : Hid ((zw (fun x y => x &&& y) l m).getD k 0 = (fun x y => x &&& y) (l.getD k 0) (m.getD k 0)) := zw_get _ Hlm.out hkl
      have hfz := hrk.frozen k
      generalize l.getD k 0 = x at c1 hx Ht
      generalize m.getD k 0 = y at c2 hy Ht
      have Hin : Hid (∀ j, j < k + 1 → (rk.setIfInBounds k (.int .u64 ((x &&& y : Nat) : Int)))[j]? = some (.int .u64 ((zw (fun x y => x &&& y) l m).getD j 0 : Nat))) := by
        show ∀ j, _
        intro j hj
        rw [Array.getElem?_setIfInBounds]
        by_cases e : k = j
        · subst e; rw [if_pos rfl, if_pos hks, Ht.out]
        · rw [if_neg e]; exact htk.out j (by omega)
      have Hout : Hid (∀ j, k + 1 ≤ j → (rk.setIfInBounds k (.int .u64 ((x &&& y : Nat) : Int)))[j]? = cur[j]?) := by
        show ∀ j, _
        intro j hj
        rw [Array.getElem?_setIfInBounds, if_neg (by omega)]
        exact hrest.out j (by omega)
      have hC := fun w => and_any x y w hx hy
      clear hks
      go_wp2_with fail
      go_region_with (go_at_call 55; refine (hC _).mono ?_; rintro e w' ⟨rfl, rfl⟩)
      all_goals go_simp
      all_goals go_wp2_with fail
      all_goals
        go_roundw
        case rel => exact ⟨k + 1, _, by omega, by go_num, hrk.set k _, Hin, Hout, (hm.setCell k _).drew⟩
        case measure => simp [intOf]; omega
    · obtain rfl : k = l.length := by omega
      go_wp2_with fail
      go_end0
      refine ⟨rfl, ?_, hm⟩
      intro j hj
      rw [zw_length _ Hlm.out] at hj
      refine ⟨g, 0, rfl, ?_⟩
      rw [Nat.zero_add, hrk.cell j]
      exact htk.out j hj
end Go.Proofs.YtgmnadlmejkkpaaDoor
