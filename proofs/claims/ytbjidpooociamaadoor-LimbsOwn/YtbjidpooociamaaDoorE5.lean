import Derived.Test.YtbjidpooociamaaDoorE4
set_option linter.unusedVariables false
set_option linter.unusedSimpArgs false
namespace Go.Proofs.YtbjidpooociamaaDoor
open Go.RowKit Lb
theorem upStep (A1 A2 A3 x P : Nat) : A3 * (A1 * P) + x * P * (A1 * A2) = (A3 + x * A2) * (A1 * P) := by grind
set_option maxRecDepth 100000 in
set_option maxHeartbeats 400000 in
theorem rUp_any (a : Option Addr) (ca n : Nat) (la : List Nat) (w : World) (hla : la.length ≤ 35184372000000) (hn : n ≤ 1048576) (hra : Rd w a la) (hma : Lim la) :
    Calls Tryd.prog 44 #[.slice a la.length ca, .int .i64 (n : Nat)] w fun e w' => ∃ v l, e = .returned (.tuple #[v, .int .i64 0]) ∧ Own w.heap.size w' v l ∧ Lim l ∧ Nrm l ∧ val l = val la * 2 ^ n ∧ Keep w w' := by
  obtain ⟨W, hW⟩ : ∃ W, n / 32 = W := ⟨_, rfl⟩
  obtain ⟨p, hp⟩ : ∃ p, n % 32 = p := ⟨_, rfl⟩
  have hWi : (n : Int) / 32 = (W : Int) := by omega
  have hpi : (n : Int) % 32 = (p : Int) := by omega
  have hp32 : p < 32 := by omega
  have hWb : W ≤ 32768 := by omega
  have hWb2 : W ≤ 70368744177664 := by omega
  have hni : ¬ (n : Int) < 0 := by omega
  have hni2 : ¬ (1048576 : Int) < (n : Int) := by omega
  have hrp : n = 32 * W + p := by omega
  have hpow : 2 ^ n = 4294967296 ^ W * 2 ^ p := by rw [hrp, Nat.pow_add, Nat.pow_mul]
  have HP : Hid (2 ^ n = 4294967296 ^ W * 2 ^ p) := hpow
  clear hW hp hrp hpow
  go_enter Tryd.func44, Tryd.ntmps44
  go_wp2_with (at_make; refine wpList_make32 _ rfl _ _ rfl _ _ _ _ W rfl rfl rfl rfl hWb2 ?_; intro w1 hrow hk hsz1)
  have hown0 : Own w.heap.size w1 (.slice (some ⟨w.heap.size, 0, none⟩) W W) (List.replicate W 0) := by
    have h1 := hrow.res (B := w.heap.size) (Nat.le_refl _)
    rw [List.length_replicate] at h1
    refine h1.own ?_
    intro a' n' c' e
    simp only [Value.slice.injEq] at e
    simp only [maxLen]
    omega
  go_loopw [6, 7, 22] (fun v c i wr => ∃ (k t : Nat) (q : List Nat), k ≤ la.length ∧ i = .int .i64 k ∧ c = .int .u64 t ∧ t < 4294967296 ∧ Hid (t < 2 ^ p) ∧ Own w.heap.size wr v q ∧ Hid (q.length = W + k) ∧ Lim q ∧ Hid (val q + t * 4294967296 ^ (W + k) = val (la.take k) * 2 ^ n) ∧ Keep w wr) (fun _ _ i _ => la.length - (intOf i).toNat)
  case atStart => exact ⟨0, 0, _, by omega, rfl, rfl, by omega, Nat.pos_of_ne_zero (by simp), hown0, by show _ = _; simp, by intro x hx; simp at hx; omega, by show _ = _; rw [val_rep]; simp [val], hk⟩
  case round =>
    obtain ⟨k, t, q, hkk, rfl, rfl, ht, htp, hown, hql, hmq, hv, hkp⟩ := hrel
    have hql' : q.length < 35184372088832 := by rw [hql.out]; omega
    obtain ⟨vs, cq, rfl, hcq, hrq⟩ := hown.shape
    clear hrq
    by_cases hkL : k < la.length
    · obtain ⟨b1, o1, rfl, hx1⟩ := (hra.keep hkp) k hkL
      obtain ⟨x, hx⟩ : ∃ x, la.getD k 0 = x := ⟨_, rfl⟩
      have hxl : x < 4294967296 := hx ▸ Lim_getD hma _
      rw [hx] at hx1
      have Hx : Hid (la.getD k 0 = x) := hx; clear hx
      obtain ⟨y, hy⟩ : ∃ y, x * 2 ^ p = y := ⟨_, rfl⟩
      have hp31 : 2 ^ p ≤ 2147483648 := Nat.le_trans (Nat.pow_le_pow_right (by omega) (show p ≤ 31 by omega)) (by decide)
      have hyl : y < 9223372036854775808 := by
        rw [← hy]
        exact Nat.lt_of_lt_of_le (Nat.mul_lt_mul_of_lt_of_le hxl hp31 (by omega)) (by decide)
      have hc2 : t + y < 2 ^ p * 4294967296 := by
        rw [← hy]
        have h1 : t < 2 ^ p := htp
        have h2 := Nat.mul_le_mul_right (2 ^ p) (show x ≤ 4294967295 by omega)
        omega
      have hcl : Hid ((t + y) / 4294967296 < 2 ^ p) := by
        show _ < _
        rw [Nat.div_lt_iff_lt_mul (by omega)]; exact hc2
      have hor : bits BinOp.or IntKind.u64 (IntKind.u64.wrap ((x : Int) * 2 ^ p)) (t : Int) = (t : Int) + (y : Int) := by
        have e1 : (x : Int) * 2 ^ p = (y : Int) := by rw [← hy]; simp
        rw [e1, IntKind.wrap_u64, show (y : Int) % 18446744073709551616 = (y : Int) by omega, u64_or_nat y t (by omega) (by omega), ← hy, Nat.mul_comm x, ← Nat.two_pow_add_eq_or_of_lt htp]
        omega
      have hand : bits BinOp.and IntKind.u64 ((t : Int) + (y : Int)) 4294967295 = (((t + y) % 4294967296 : Nat) : Int) := by have := and64 (t + y) (by omega); simpa using this
      have HV : Hid (val (q ++ [(t + y) % 4294967296]) + ((t + y) / 4294967296) * 4294967296 ^ (W + (k + 1)) = val (la.take (k + 1)) * 2 ^ n) := by
        show _ = _
        have h1 := snoc_step q (val (la.take k) * 2 ^ n) t y 0 (val (la.take k) * 2 ^ n + (y + 0) * 4294967296 ^ q.length) (4294967296 ^ q.length) rfl (by rw [hql.out]; exact hv.out) rfl
        rw [Nat.add_zero, Nat.add_zero, hql.out] at h1
        rw [show W + (k + 1) = W + k + 1 from rfl, Nat.pow_succ, h1, val_take_succ, Hx.out, ← hy, HP.out, Nat.pow_add]
        exact upStep _ _ _ _ _
      have htl : (t + y) / 4294967296 < 4294967296 := Nat.lt_of_lt_of_le hcl (by omega)
      have Hql : Hid (∀ n, (q ++ [n]).length = W + (k + 1)) := by intro n; have := hql.out; simp; omega
      clear hy hc2 hp31
      go_wp2_with (at_builtin; refine wpList_app32 rfl _ _ rfl q _ rfl _ ((t + y) % 4294967296) ?_ rfl hown hkp hql' ?_; rotate_left; intro v' w1' hown' hk')
      go_roundw
      case rel => exact ⟨k + 1, (t + y) / 4294967296, _, by omega, by go_num, by simp, htl, hcl, hown', Hql.out _, Lim_snoc hmq _ (by omega), HV, hk'⟩
      case measure => simp [intOf]; omega
      all_goals simp
    · have hke : k = la.length := by omega
      subst hke
      rw [List.take_of_length_le (Nat.le_refl _)] at hv
      have HF : Hid (val (q ++ [t]) = val la * 2 ^ n) := by
        show _ = _
        rw [val_append, hql.out, ← hv.out]
        simp [val, Nat.mul_comm]
      have Hl : Hid (q.length = W + la.length) := hql
      go_wp2_with (at_builtin; refine wpList_app32 rfl _ _ rfl q _ rfl _ t ?_ rfl hown hkp hql' ?_; rotate_left; intro v' w1' hown' hk')
      obtain ⟨vs5, cq5, rfl, hcq5, hrq5⟩ := hown'.shape
      have hN := rNorm_any vs5 cq5 (q ++ [t]) w1' hcq5 (by have := Hl.out; simp; omega) hrq5
      refine hN.mono ?_
      rintro e w5 ⟨v5, rfl, ho5, hk5⟩
      go_wp2_with fail
      go_ret2
      exact ⟨_, _, rfl, ho5.mono hk'.le, Lim_take (Lim_snoc hmq _ ht) _, Nrm_take _, by rw [val_take_nl]; exact HF.out, hk'.trans hk5⟩
      all_goals (first | rfl | simp)
end Go.Proofs.YtbjidpooociamaaDoor
