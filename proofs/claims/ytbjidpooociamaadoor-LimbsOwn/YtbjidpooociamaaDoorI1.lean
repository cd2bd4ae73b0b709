import Derived.Test.YtbjidpooociamaaDoorH5
import Derived.Test.YtbjidpooociamaaDoorE5
set_option linter.unusedVariables false
set_option linter.unusedSimpArgs false
namespace Go.Proofs.YtbjidpooociamaaDoor
open Go.RowKit Lb
theorem dbStep (P x V b : Nat) : (V * 2 + b) + (2 * x) * P = (V + x * P) * 2 + b := by grind
theorem even_or (x t : Nat) (ht : t < 2) : (2 * x % 4294967296) ||| t = 2 * x % 4294967296 + t := by
  have h1 : 2 * x % 4294967296 = 2 * (x % 2147483648) := by omega
  have := Nat.shiftLeft_add_eq_or_of_lt (b := t) (i := 1) (by omega) (x % 2147483648)
  rw [Nat.shiftLeft_eq] at this
  rw [h1, Nat.mul_comm]
  simpa using this.symm
set_option maxRecDepth 100000 in
set_option maxHeartbeats 400000 in
theorem double_any (a : Option Addr) (ca : Nat) (la : List Nat) (bit : Bool) (w : World) (hla : la.length ≤ 35184372087999) (hra : Rd w a la) (hma : Lim la) :
    Calls Tryd.prog 81 #[.slice a la.length ca, .bool bit] w fun e w' => ∃ v l, e = .returned v ∧ Own w.heap.size w' v l ∧ Lim l ∧ Nrm l ∧ val l = 2 * val la + bit.toNat ∧ Keep w w' := by
  obtain ⟨B, hB⟩ : ∃ B, bit.toNat = B := ⟨_, rfl⟩
  have hB2 : B < 2 := by rw [← hB]; cases bit <;> decide
  have HB : Hid (bit.toNat = B) := hB
  have hcase : ∀ (c0 : Nat), c0 = B → True := fun _ _ => trivial
  clear hcase
  cases bit
  all_goals
    go_enter Tryd.func81, Tryd.ntmps81
    go_wp2_with fail
    go_loopw [5, 6, 12] (fun v c i wr => ∃ (k t : Nat) (q : List Nat), k ≤ la.length ∧ i = .int .i64 k ∧ c = .int .u32 t ∧ t < 2 ∧ Own w.heap.size wr v q ∧ Hid (q.length = k) ∧ Lim q ∧ Hid (val q + t * 4294967296 ^ k = val (la.take k) * 2 + B) ∧ Keep w wr) (fun _ _ i _ => la.length - (intOf i).toNat)
    case atStart => exact ⟨0, B, [], by omega, rfl, by rw [← hB]; rfl, hB2, World.ownsRow_nil _ _ _ _, rfl, by intro x hx; simp at hx, by show _ = _; simp [val], Keep.refl _⟩
    case round =>
      obtain ⟨k, t, q, hkk, rfl, rfl, ht, hown, hql, hmq, hv, hkp⟩ := hrel
      have hql' : q.length < 35184372088832 := by rw [hql.out]; omega
      obtain ⟨vs, cq, rfl, hcq, hrq⟩ := hown.shape
      clear hrq
      by_cases hkL : k < la.length
      · obtain ⟨b1, o1, rfl, hx1⟩ := (hra.keep hkp) k hkL
        obtain ⟨x, hx⟩ : ∃ x, la.getD k 0 = x := ⟨_, rfl⟩
        have hxl : x < 4294967296 := hx ▸ Lim_getD hma _
        rw [hx] at hx1
        have Hx : Hid (la.getD k 0 = x) := hx; clear hx
        have hor : bits BinOp.or IntKind.u32 ((x : Int) * 2 % 4294967296) (t : Int) = (((t + 2 * x) % 4294967296 : Nat) : Int) := by
          have e1 : (x : Int) * 2 % 4294967296 = ((2 * x % 4294967296 : Nat) : Int) := by omega
          rw [e1, u32_or_nat _ t (by omega) (by omega), even_or x t ht]
          omega
        have HV : Hid (val (q ++ [(t + 2 * x) % 4294967296]) + ((t + 2 * x) / 4294967296) * 4294967296 ^ (k + 1) = val (la.take (k + 1)) * 2 + B) := by
          show _ = _
          have h1 := snoc_step q (val (la.take k) * 2 + B) t (2 * x) 0 (val (la.take k) * 2 + B + (2 * x + 0) * 4294967296 ^ q.length) (4294967296 ^ q.length) rfl (by rw [hql.out]; exact hv.out) rfl
          rw [Nat.add_zero, Nat.add_zero, hql.out] at h1
          rw [Nat.pow_succ, h1, val_take_succ, Hx.out]
          exact dbStep _ _ _ _
        have hsh : (x : Int) / 2147483648 = (((t + 2 * x) / 4294967296 : Nat) : Int) := by omega
        have htl : (t + 2 * x) / 4294967296 < 2 := by omega
        have Hql : Hid (∀ n, (q ++ [n]).length = k + 1) := by intro n; have := hql.out; simp; omega
        go_wp2_with (at_builtin; refine wpList_app32 rfl _ _ rfl q _ rfl _ ((t + 2 * x) % 4294967296) ?_ rfl hown hkp hql' ?_; rotate_left; intro v' w1' hown' hk')
        go_roundw
        case rel => exact ⟨k + 1, (t + 2 * x) / 4294967296, _, by omega, by go_num, by simp, htl, hown', Hql.out _, Lim_snoc hmq _ (by omega), HV, hk'⟩
        case measure => simp [intOf]; omega
        all_goals (first | exact hor | simp)
      · have hke : k = la.length := by omega
        subst hke
        rw [List.take_of_length_le (Nat.le_refl _)] at hv
        have HF : Hid (val (q ++ [t]) = 2 * val la + B) := by
          show _ = _
          rw [val_append, hql.out, Nat.mul_comm 2, ← hv.out]
          simp [val, Nat.mul_comm]
        have Hl : Hid (q.length = la.length) := hql
        go_wp2_with (at_builtin; refine wpList_app32 rfl _ _ rfl q _ rfl _ t ?_ rfl hown hkp hql' ?_; rotate_left; intro v' w1' hown' hk')
        obtain ⟨vs5, cq5, rfl, hcq5, hrq5⟩ := hown'.shape
        have hN := rNorm_any vs5 cq5 (q ++ [t]) w1' hcq5 (by have := Hl.out; simp; omega) hrq5
        refine hN.mono ?_
        rintro e w5 ⟨v5, rfl, ho5, hk5⟩
        go_wp2_with fail
        go_ret
        exact ⟨_, _, rfl, ho5.mono hk'.le, Lim_take (Lim_snoc hmq _ (by omega)) _, Nrm_take _, by rw [val_take_nl, HF.out, HB.out], hk'.trans hk5⟩
        all_goals (first | rfl | simp)
end Go.Proofs.YtbjidpooociamaaDoor
