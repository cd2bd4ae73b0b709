import Derived.Test.YtagfkmbljkglpaaProg
import Derived.Test.YtagfkmbljkglpaaLC8
import Derived.WalkKit
import Derived.WalkSpells
import Derived.WalkLawsBesides
import Derived.Laws.CopyOwn
import Derived.Deep.Draws
import Derived.Deep.QuietTactic
import Derived.BigQuiet
import Derived.Laws.MathBits
import Derived.Shelf.Small.Bits
import Derived.Shelf.Strconv.Itoa0
import Derived.Shelf.Bits.Mul64
set_option linter.unusedVariables false
set_option linter.unusedSimpArgs false
namespace Go.Proofs.Ytagfkmbljkglpaa
open Go.RowKit Lb
theorem set_mid (r q : List Nat) (m y : Nat) (h : m < r.length) : (r.take (m + 1) ++ q).set m y = r.take m ++ (y :: q) := by
  rw [take_snoc r m h, List.append_assoc]
  have e : (r.take m).length = m := by simp; omega
  rw [List.set_append_right _ _ (by omega), e, Nat.sub_self]
  rfl
theorem get_mid (r q : List Nat) (m : Nat) (h : m < r.length) : (r.take (m + 1) ++ q).getD m 0 = r.getD m 0 := by
  have e : m < (r.take (m + 1)).length := by simp; omega
  simp only [List.getD]
  rw [List.getElem?_append_left e, List.getElem?_take_of_lt (by omega)]
theorem divStep (v q c by' x : Nat) (h0 : 0 < by') (hq : q = v / by') (hc : c = v % by') :
    ((c * 4294967296 + x) / by') + 4294967296 * q = (x + 4294967296 * v) / by' ∧ (c * 4294967296 + x) % by' = (x + 4294967296 * v) % by' := by
  have hv : v = by' * q + c := by rw [hq, hc]; exact (Nat.div_add_mod v by').symm
  have e : x + 4294967296 * v = (c * 4294967296 + x) + by' * (4294967296 * q) := by
    rw [hv, Nat.mul_add, Nat.mul_left_comm]; omega
  rw [e, Nat.add_mul_div_left _ _ h0, Nat.add_mul_mod_self_left]
  exact ⟨rfl, rfl⟩
set_option maxRecDepth 100000 in
set_option maxHeartbeats 400000 in
theorem divideSmall_any (g c n by' : Nat) (r : List Nat) (w : World) (hrl : r.length ≤ 70368744177664) (hn : n ≤ r.length) (hrow : Row w g r) (hm : Lim r) (h0 : 0 < by') (hby : by' < 4294967296) :
    Calls Try.prog 37 #[.slice (some ⟨g, 0, none⟩) n c, .int .u32 (by' : Nat)] w fun e w' => e = .returned (.int .u32 (val (r.take n) % by' : Nat)) ∧ ∃ q, Row w' g (q ++ r.drop n) ∧ q.length = n ∧ Lim q ∧ val q = val (r.take n) / by' ∧ Mut g w w' := by
  go_enter Try.func37, Try.ntmps37
  go_wp2
  go_loopw [5, 10] (fun t i wr => ∃ (k c : Nat) (q : List Nat), k ≤ n ∧ i = .int .i64 k ∧ t = .int .u64 c ∧ Row wr g (r.take (n - k) ++ (q ++ r.drop n)) ∧ q.length = k ∧ Lim q ∧ Hid (val q = val ((r.take n).drop (n - k)) / by') ∧ Hid (c = val ((r.take n).drop (n - k)) % by') ∧ Mut g w wr) (fun _ i _ => n - (intOf i).toNat)
  case atStart => exact ⟨0, 0, [], by omega, rfl, rfl, by simpa using hrow, rfl, by intro x hx; simp at hx, by show _ = _; rw [List.drop_eq_nil_of_le (by simp; omega)]; simp [val], by show _ = _; rw [List.drop_eq_nil_of_le (by simp; omega)]; simp [val], Mut.refl _ _⟩
  case round =>
    obtain ⟨k, c', q, hk, rfl, rfl, hrk, hql, hmq, hv, hcv, hmut⟩ := hrel
    by_cases hkl : k < n
    · obtain ⟨m, hm1⟩ : ∃ m, n - k = m + 1 := ⟨n - k - 1, by omega⟩
      have hmr : m < r.length := by omega
      rw [hm1] at hrk hv hcv
      have hc := hrk.cell m (by simp; omega)
      rw [get_mid r _ m hmr] at hc
      have hfz := hrk.frozen m
      obtain ⟨x, hx⟩ : ∃ x, r.getD m 0 = x := ⟨_, rfl⟩
      have hxl : x < 4294967296 := hx ▸ Lim_getD hm _
      rw [hx] at hc
      have hcl : c' < by' := by rw [hcv.out]; exact Nat.mod_lt _ h0
      have hcl2 : c' < 4294967296 := by omega
      have hor := or64' c' x hcl2 hxl
      have hdrop : Hid (val ((r.take n).drop m) = x + 4294967296 * val ((r.take n).drop (m + 1))) := by
        show _ = _
        have h1 := val_drop_pred (r.take n) (m + 1) (by omega) (by simp; omega)
        rw [Nat.add_sub_cancel] at h1
        rw [h1, ← hx]
        simp [List.getD, show m < n by omega]
      have hst := divStep _ _ _ by' x h0 hv.out hcv.out
      have Hst : Hid ((c' * 4294967296 + x) / by' + 4294967296 * val q = (x + 4294967296 * val ((r.take n).drop (m + 1))) / by' ∧ (c' * 4294967296 + x) % by' = (x + 4294967296 * val ((r.take n).drop (m + 1))) % by') := hst
      have hqb : (c' * 4294967296 + x) / by' < 4294967296 := by
        rw [Nat.div_lt_iff_lt_mul h0]
        have : c' * 4294967296 + 4294967296 ≤ by' * 4294967296 := by omega
        omega
      have e1 : n - 1 - k = m := by omega
      have e2 : Hid (n - (k + 1) = m) := by show _ = _; omega
      have Hx : Hid (r.getD m 0 = x) := hx
      have hidx : (n : Int) - 1 - (k : Int) = (m : Int) := by omega
      clear hx hst e1 hm1
      go_wp2
      go_roundw
      case rel =>
        refine ⟨k + 1, (c' * 4294967296 + x) % by', (c' * 4294967296 + x) / by' :: q, by omega, by go_num, by simp, ?_, by simp [hql], ?_, ?_, ?_, hmut.setCell _ _⟩
        · have h1 := hrk.set m ((c' * 4294967296 + x) / by')
          rw [set_mid r _ m _ hmr] at h1
          rw [e2.out]
          have ev : ((c' : Int) * 4294967296 + (x : Int)) / (by' : Int) % 4294967296 = (((c' * 4294967296 + x) / by' : Nat) : Int) := by
            rw [show ((c' : Int) * 4294967296 + (x : Int)) / (by' : Int) = (((c' * 4294967296 + x) / by' : Nat) : Int) from by simp]
            exact Int.emod_eq_of_lt (Int.natCast_nonneg _) (by generalize (c' * 4294967296 + x) / by' = Q at hqb ⊢; omega)
          rw [ev]
          exact h1
        · intro y hy
          simp at hy
          rcases hy with rfl | hy
          · exact hqb
          · exact hmq y hy
        · show _ = _
          rw [e2.out, hdrop.out, val, Hst.out.1]
        · show _ = _
          rw [e2.out, hdrop.out, Hst.out.2]
      case measure => simp [intOf]; omega
    · go_wp2
      go_ret
      have hke : k = n := by omega
      subst hke
      rw [Nat.sub_self] at hrk hv hcv
      rw [List.drop_zero] at hv hcv
      exact ⟨ret_int (by have hcl : c' < by' := (by rw [hcv.out]; exact Nat.mod_lt _ h0); rw [← hcv.out]; omega), q, by simpa using hrk, hql, hmq, hv.out, hmut⟩
end Go.Proofs.Ytagfkmbljkglpaa
