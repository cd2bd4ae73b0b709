import Derived.Test.YtbjidpooociamaaDoorE3
set_option linter.unusedVariables false
set_option linter.unusedSimpArgs false
namespace Go.Proofs.YtbjidpooociamaaDoor
open Go.RowKit Lb
set_option maxRecDepth 100000 in
set_option maxHeartbeats 400000 in
theorem rDown_any (a : Option Addr) (ca n : Nat) (la : List Nat) (w : World) (hla : la.length ≤ 35184372088000) (hn : n ≤ 1048576) (hra : Rd w a la) (hma : Lim la) :
    Calls Tryd.prog 46 #[.slice a la.length ca, .int .i64 (n : Nat)] w fun e w' => ∃ v l, e = .returned (.tuple #[v, .int .i64 0]) ∧ Own w.heap.size w' v l ∧ Lim l ∧ Nrm l ∧ val l = val la / 2 ^ n ∧ Keep w w' := by
  have HV : Hid (val (shr (n % 32) (la.drop (n / 32))) = val la / 2 ^ n) := low_val la hma n
  obtain ⟨W, hW⟩ : ∃ W, n / 32 = W := ⟨_, rfl⟩
  obtain ⟨p, hp⟩ : ∃ p, n % 32 = p := ⟨_, rfl⟩
  have hWi : (n : Int) / 32 = (W : Int) := by omega
  have hpi : (n : Int) % 32 = (p : Int) := by omega
  have hp32 : p < 32 := by omega
  have hWb : W ≤ 32768 := by omega
  have hni : ¬ (n : Int) < 0 := by omega
  have hni2 : ¬ (1048576 : Int) < (n : Int) := by omega
  rw [hW, hp] at HV
  clear hW hp
  obtain ⟨d, hd⟩ : ∃ d, la.drop W = d := ⟨_, rfl⟩
  have Hd : Hid (la.drop W = d) := hd
  rw [hd] at HV
  have Hdl : Hid (d.length = la.length - W) := by show _ = _; rw [← hd]; simp
  clear hd
  go_enter Tryd.func46, Tryd.ntmps46
  go_wp2_with fail
  go_loopw [6, 7] (fun v i wr => ∃ (k : Nat) (q : List Nat), W ≤ k ∧ (k ≤ la.length ∨ k = W) ∧ i = .int .i64 k ∧ Own w.heap.size wr v q ∧ Hid (q.length = k - W) ∧ Hid (q = (shr p d).take (k - W)) ∧ Keep w wr) (fun _ i _ => la.length - (intOf i).toNat)
  case atStart => exact ⟨W, [], Nat.le_refl _, .inr rfl, rfl, World.ownsRow_nil _ _ _ _, by show _ = _; simp, by show _ = _; simp, Keep.refl _⟩
  case round =>
    obtain ⟨k, q, hkW, hkl, rfl, hown, hql, hq, hkp⟩ := hrel
    have hkb : k ≤ 35184372088000 := by omega
    have hql' : q.length < 35184372088832 := by rw [hql.out]; omega
    obtain ⟨vs, cq, rfl, hcq, hrq⟩ := hown.shape
    have Hrq : Hid (Rd wr vs q) := hrq
    clear hrq
    have hmq : Lim q := by rw [hq.out]; exact Lim_take (shr_lim _ _) _
    by_cases hkL : k < la.length
    · obtain ⟨b1, o1, rfl, hx1⟩ := (hra.keep hkp) k hkL
      obtain ⟨x, hx⟩ : ∃ x, la.getD k 0 = x := ⟨_, rfl⟩
      obtain ⟨z, hz⟩ : ∃ z, la.getD (k + 1) 0 = z := ⟨_, rfl⟩
      have hxl : x < 4294967296 := hx ▸ Lim_getD hma _
      have hzl : z < 4294967296 := hz ▸ Lim_getD hma _
      rw [hx] at hx1
      have HS : Hid (∀ y, y = (x + 4294967296 * z) / 2 ^ p % 4294967296 → q ++ [y] = (shr p d).take (k + 1 - W)) := by
        intro y hy
        have e1 : la.getD k 0 = d.getD (k - W) 0 := by rw [← Hd.out]; simp only [List.getD, List.getElem?_drop]; rw [show W + (k - W) = k by omega]
        have e2 : la.getD (k + 1) 0 = d.getD (k - W + 1) 0 := by rw [← Hd.out]; simp only [List.getD, List.getElem?_drop]; rw [show W + (k - W + 1) = k + 1 by omega]
        rw [← hx, ← hz, e1, e2, ← shr_get p d (k - W) (by rw [Hdl.out]; omega)] at hy
        rw [hq.out, show k + 1 - W = k - W + 1 by omega, take_snoc _ (k - W) (by rw [shr_length, Hdl.out]; omega), hy]
      have Hql : Hid (∀ n, (q ++ [n]).length = k + 1 - W) := by intro n; have := hql.out; simp; omega
      by_cases hk1 : k + 1 < la.length
      · obtain ⟨b2, o2, e2, hx2⟩ := (hra.keep hkp) (k + 1) hk1
        simp only [Option.some.injEq, Addr.mk.injEq, and_true] at e2
        obtain ⟨rfl, rfl⟩ := e2
        rw [hz] at hx2
        clear hx hz
        have hor := or64 z x hzl hxl
        have hpb : (x + z * 4294967296) / 2 ^ p < 18446744073709551616 := Nat.lt_of_le_of_lt (Nat.div_le_self _ _) (by omega)
        have hand : bits BinOp.and IntKind.u64 (((x : Int) + (z : Int) * 4294967296) / 2 ^ p) 4294967295 = ((((x + z * 4294967296) / 2 ^ p % 4294967296 : Nat)) : Int) := by have := and64 ((x + z * 4294967296) / 2 ^ p) hpb; simpa using this
        go_wp2_with (at_builtin; refine wpList_app32 rfl _ _ rfl q _ rfl _ ((x + z * 4294967296) / 2 ^ p % 4294967296) ?_ rfl hown hkp hql' ?_; rotate_left; intro v' w1' hown' hk')
        go_roundw
        case rel => exact ⟨k + 1, _, by omega, .inl (by omega), by go_num, hown', Hql.out _, HS.out _ (by rw [Nat.mul_comm z]), hk'⟩
        case measure => simp [intOf]; omega
        all_goals simp
      · have hz0 : z = 0 := by rw [← hz]; exact getD_past la _ hk1
        have hd1 : decide ((k : Int) + 1 < (la.length : Int)) = false := by simp; omega
        clear hx hz
        have hpb : x / 2 ^ p < 18446744073709551616 := Nat.lt_of_le_of_lt (Nat.div_le_self _ _) (by omega)
        have hand : bits BinOp.and IntKind.u64 ((x : Int) / 2 ^ p) 4294967295 = ((((x) / 2 ^ p % 4294967296 : Nat)) : Int) := by have := and64 (x / 2 ^ p) hpb; simpa using this
        go_wp2_with (at_builtin; refine wpList_app32 rfl _ _ rfl q _ rfl _ ((x) / 2 ^ p % 4294967296) ?_ rfl hown hkp hql' ?_; rotate_left; intro v' w1' hown' hk')
        go_roundw
        case rel => exact ⟨k + 1, _, by omega, .inl (by omega), by go_num, hown', Hql.out _, HS.out _ (by rw [hz0, Nat.mul_zero, Nat.add_zero]), hk'⟩
        case measure => simp [intOf]; omega
        all_goals simp
    · have hN := rNorm_any vs cq q wr hcq (by have := hql.out; omega) Hrq
      have hkf : decide ((k : Int) < (la.length : Int)) = false := by simp; omega
      have HF : Hid (val q = val la / 2 ^ n) := by
        show _ = _
        rw [← HV.out, hq.out, List.take_of_length_le (by rw [shr_length, Hdl.out]; omega)]
      go_wp2_with fail
      refine hN.mono ?_
      rintro e w5 ⟨v5, rfl, ho5, hk5⟩
      go_wp2_with fail
      go_ret2
      exact ⟨_, _, rfl, ho5.mono hkp.le, Lim_take hmq _, Nrm_take _, by rw [val_take_nl]; exact HF.out, hkp.trans hk5⟩
end Go.Proofs.YtbjidpooociamaaDoor
