import Derived.Test.YtgmnadlmejkkpaaDoorE1
import Derived.Deep.RegionWith
set_option linter.unusedVariables false
set_option linter.unusedSimpArgs false
namespace Go.Proofs.YtgmnadlmejkkpaaDoor
open Go.RowKit
set_option maxRecDepth 100000 in
set_option maxHeartbeats 400000 in
/-- Into words of one's own that are neither of the two. -/
theorem join_and (g c ca cb : Nat) (a b : Option Addr) (r l m : List Nat) (w : World) (hrow : Row w g r) (hrl : r.length = l.length) (hlm : l.length = m.length) (hl : l.length ≤ 17592186044416) (ha : Rd w a l) (hb : Rd w b m) (hwl : W64 l) (hwm : W64 m) (oa : Off g a l) (ob : Off g b m) :
    Calls Tryd.prog 60 #[.slice (some ⟨g, 0, none⟩) l.length c, .slice a l.length ca, .slice b l.length cb, .func (.func 55) #[] #[]] w fun e w' => e = .returned (.tuple #[]) ∧ Row w' g (zw (fun x y => x &&& y) l m) ∧ Mut g w w' := by
  have Hlm : Hid (l.length = m.length) := hlm
  clear hlm
  go_enter Tryd.func60, Tryd.ntmps60
  go_wp2_with fail
  go_loopw [11] (fun i wr => ∃ (k : Nat) (rk : List Nat), k ≤ l.length ∧ i = .int .i64 k ∧ Row wr g rk ∧ Hid (rk.length = l.length) ∧ Hid (rk.take k = (zw (fun x y => x &&& y) l m).take k) ∧ Mut g w wr) (fun i _ => l.length - (intOf i).toNat)
  case atStart => exact ⟨0, r, by omega, rfl, hrow, hrl, by show _ = _; simp, Mut.refl _ _⟩
  case round =>
    obtain ⟨k, rk, hkk, rfl, hrk, hlen, htk, hm⟩ := hrel
    by_cases hkl : k < l.length
    · obtain ⟨b1, o1, e1, c1⟩ := (ha.mut hm oa) k hkl
      obtain ⟨b2, o2, e2, c2⟩ := (hb.mut hm ob) k (by have := Hlm.out; omega)
      subst e1 e2
      have hx := W64_getD hwl k
      have hy := W64_getD hwm k
      have Ht : Hid ((zw (fun x y => x &&& y) l m).take (k + 1) = (zw (fun x y => x &&& y) l m).take k ++ [(fun x y => x &&& y) (l.getD k 0) (m.getD k 0)]) := zw_take _ Hlm.out hkl
      have hfz := hrk.frozen k
      have hc0 := hrk.cell k (by rw [hlen.out]; omega)
      generalize l.getD k 0 = x at c1 hx Ht
      generalize m.getD k 0 = y at c2 hy Ht
      have hC := fun w => and_any x y w hx hy
      go_wp2_with fail
      go_region_with (go_at_call 55; refine (hC _).mono ?_; rintro e w' ⟨rfl, rfl⟩)
      all_goals go_simp
      all_goals go_wp2_with fail
      all_goals
        go_roundw
        case rel => exact ⟨k + 1, rk.set k (x &&& y), by omega, by go_num, hrk.set k _, by show _ = _; rw [List.length_set]; exact hlen.out, by show _ = _; rw [take_set_snoc _ _ _ (by rw [hlen.out]; exact hkl), htk.out, Ht.out], (hm.setCell k _).drew⟩
        case measure => simp [intOf]; omega
    · obtain rfl : k = l.length := by omega
      go_wp2_with fail
      go_end0
      refine ⟨rfl, ?_, hm⟩
      have h := htk.out
      rw [List.take_of_length_le (by rw [hlen.out]; exact Nat.le_refl _), List.take_of_length_le (by rw [zw_length _ Hlm.out]; exact Nat.le_refl _)] at h
      rw [← h]
      exact hrk
end Go.Proofs.YtgmnadlmejkkpaaDoor
