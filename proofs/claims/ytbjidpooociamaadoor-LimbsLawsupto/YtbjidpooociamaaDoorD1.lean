import Derived.Test.YtbjidpooociamaaDoorC18
namespace Go.Proofs.YtbjidpooociamaaDoor
open Go.RowKit Lb
set_option maxHeartbeats 400000 in
set_option maxRecDepth 100000 in
theorem rNorm_wide (a : Option Addr) (c : Nat) (l : List Nat) (w : World) (_hnc : l.length ≤ c) (hl : l.length ≤ 35184372088831) (hr : Rd w a l) :
    Calls Tryd.prog 18 #[.slice a l.length c] w fun e w' => ∃ v, e = .returned v ∧ Own w.heap.size w' v (l.take (nl l)) ∧ Keep w w' := by
  obtain ⟨i0, hi, hz0, hz1, hz2⟩ := info_parts i62
  go_enter Tryd.func18, Tryd.ntmps18
  go_wp2
  go_loop [3] (fun i => ∃ k : Nat, k ≤ l.length ∧ i = .int .i64 k ∧ ∀ j, k ≤ j → l.getD j 0 = 0) (fun i => (intOf i).toNat)
  case atStart => exact ⟨l.length, Nat.le_refl _, rfl, fun j hj => by simp [List.getD, List.getElem?_eq_none hj]⟩
  case round =>
    obtain ⟨k, hk, rfl, hz⟩ := hrel
    by_cases hc0 : 0 < k ∧ l.getD (k - 1) 0 = 0
    · obtain ⟨h0, hx⟩ := hc0
      obtain ⟨b, o, rfl, hc⟩ := hr (k - 1) (by omega)
      rw [hx] at hc
      have Hx : Hid (l.getD (k - 1) 0 = 0) := hx; clear hx
      go_wp2
      go_round
      case rel => exact ⟨k - 1, by omega, by go_num, fun j hj => by
        by_cases e : j = k - 1
        · subst e; exact Hx.out
        · exact hz j (by omega)⟩
      case measure => simp [intOf]; omega
    · have hnl : nl l = k := nl_eq l k hz (fun h h' => hc0 ⟨h, h'⟩)
      have Hnl : Hid (nl l = k) := hnl
      clear hz hnl
      have hex : (0 < k ∧ ∃ b o x, a = some ⟨b, o, none⟩ ∧ x ≠ 0 ∧ w.cell? ⟨b, o + (k - 1), none⟩ = some (.int .u32 (x : Nat))) ∨ k = 0 := by
        by_cases h0 : 0 < k
        · obtain ⟨b, o, e, hc⟩ := hr (k - 1) (by omega)
          exact .inl ⟨h0, b, o, _, e, fun h => hc0 ⟨h0, h⟩, hc⟩
        · exact .inr (by omega)
      clear hc0
      rcases hex with ⟨h0, b, o, x, rfl, hx0, hc⟩ | rfl
      all_goals
        go_wp2
        go_loopw [4, 5] (fun v i wr => ∃ j : Nat, j ≤ nl l ∧ i = .int .i64 j ∧ Own w.heap.size wr v (l.take j) ∧ Keep w wr) (fun _ i _ => nl l - (intOf i).toNat)
        case atStart => exact ⟨0, by omega, rfl, World.ownsRow_nil _ _ _ _, Keep.refl _⟩
        case round =>
          obtain ⟨j, hj, rfl, hown, hkp⟩ := hrel
          rw [Hnl.out] at hj
          first
          | (have hj0 : j = 0 := by omega
             subst hj0
             go_wp2
             go_ret
             exact ⟨_, rfl, by rw [Hnl.out]; exact hown, hkp⟩)
          | (clear hc
             by_cases hjl : j < k
             · obtain ⟨b', o', e', hc'⟩ := hr j (by omega)
               simp only [Option.some.injEq, Addr.mk.injEq, and_true] at e'
               obtain ⟨rfl, rfl⟩ := e'
               have hc2 := hkp.cell hc'
               clear hc'
               obtain ⟨y, hy⟩ : ∃ y, l.getD j 0 = y := ⟨_, rfl⟩
               rw [hy] at hc2
               have Hy : Hid (l.getD j 0 = y) := hy; clear hy
               have hlen : (l.take j).length < 35184372088832 := by simp; omega
               have hle : (l.take j).length = j := by simp; omega
               go_wp2_with (at_builtin; refine wpList_app32 rfl _ _ rfl (l.take j) _ rfl _ y rfl rfl hown hkp hlen ?_; intro v' w1 hown' hk')
               go_roundw
               case rel => exact ⟨j + 1, by rw [Hnl.out]; omega, by go_num, by rw [take_snoc l j (by omega), Hy.out]; exact hown', hk'⟩
               case measure => have := Hnl.out; simp [intOf]; omega
             · go_wp2
               go_ret
               exact ⟨_, rfl, by rw [Hnl.out, show k = j by omega]; exact hown, hkp⟩)
theorem carry0 {la lb : List Nat} (ha : Lim la) (hb : Lim lb) (k t V : Nat) (h1 : la.length < k) (h2 : lb.length < k) (hv : V + t * 4294967296 ^ k = val la + val lb) : t = 0 := by
  rcases Nat.eq_zero_or_pos t with h | h
  · exact h
  · exfalso
    have a1 := val_lt ha
    have b1 := val_lt hb
    obtain ⟨j, rfl⟩ : ∃ j, k = j + 1 := ⟨k - 1, by omega⟩
    have a2 : 4294967296 ^ la.length ≤ 4294967296 ^ j := Nat.pow_le_pow_right (by omega) (by omega)
    have b2 : 4294967296 ^ lb.length ≤ 4294967296 ^ j := Nat.pow_le_pow_right (by omega) (by omega)
    have h3 : 4294967296 ^ (j + 1) ≤ t * 4294967296 ^ (j + 1) := Nat.le_mul_of_pos_left _ h
    rw [Nat.pow_succ] at h3 hv
    omega
theorem getD_past (l : List Nat) (k : Nat) (h : ¬ k < l.length) : l.getD k 0 = 0 := by simp [List.getD, List.getElem?_eq_none (show l.length ≤ k by omega)]
theorem snoc_step (q : List Nat) (A t x y S X : Nat) (hq : 4294967296 ^ q.length = X) (hv : val q + t * X = A) (hS : S = A + (x + y) * X) : val (q ++ [(t + x + y) % 4294967296]) + (t + x + y) / 4294967296 * (X * 4294967296) = S := by
  have h := Nat.div_add_mod' (t + x + y) 4294967296
  have h2 : ((t + x + y) / 4294967296 * 4294967296 + (t + x + y) % 4294967296) * X = (t + x + y) * X := by rw [h]
  rw [val_snoc, hq]
  grind
set_option maxRecDepth 100000 in
set_option maxHeartbeats 1600000 in
theorem rAdd_any (a b : Option Addr) (ca cb : Nat) (la lb : List Nat) (w : World) (hla : la.length ≤ 35184372087808) (hlb : lb.length ≤ 35184372087808) (hra : Rd w a la) (hrb : Rd w b lb) (hma : Lim la) (hmb : Lim lb) :
    Calls Tryd.prog 34 #[.slice a la.length ca, .slice b lb.length cb] w fun e w' => ∃ v l, e = .returned v ∧ Own w.heap.size w' v l ∧ Lim l ∧ Nrm l ∧ val l = val la + val lb ∧ Keep w w' := by
  go_enter Tryd.func34, Tryd.ntmps34
  go_wp2_with fail
  go_loopw [5, 6, 7] (fun v c i wr => ∃ (k t : Nat) (q : List Nat), k ≤ max la.length lb.length + 1 ∧ t ≤ 1 ∧ i = .int .i64 k ∧ c = .int .u64 t ∧ Own w.heap.size wr v q ∧ Hid (q.length = k) ∧ Lim q ∧ Hid (val q + t * 4294967296 ^ k = val (la.take k) + val (lb.take k)) ∧ Keep w wr) (fun _ _ i _ => max la.length lb.length + 2 - (intOf i).toNat)
  case atStart => exact ⟨0, 0, [], by omega, by omega, rfl, rfl, World.ownsRow_nil _ _ _ _, rfl, by intro x hx; simp at hx, by show _ = _; simp [val], Keep.refl _⟩
  case round =>
    obtain ⟨k, t, q, hk, ht, rfl, rfl, hown, hql, hmq, hv, hkp⟩ := hrel
    have hql' : q.length < 35184372088832 := by rw [hql.out]; omega
    obtain ⟨vs, cq, rfl, hcq, hrq⟩ := hown.shape
    have hgoA : k < la.length → ∃ b1 o1, a = some ⟨b1, o1, none⟩ ∧ wr.cell? ⟨b1, o1 + k, none⟩ = some (.int .u32 (la.getD k 0 : Nat)) := fun h => by
      obtain ⟨b1, o1, e, hc⟩ := (hra.keep hkp) k h
      exact ⟨b1, o1, e, hc⟩
    have hgoB : k < lb.length → ∃ b1 o1, b = some ⟨b1, o1, none⟩ ∧ wr.cell? ⟨b1, o1 + k, none⟩ = some (.int .u32 (lb.getD k 0 : Nat)) := fun h => by
      obtain ⟨b1, o1, e, hc⟩ := (hrb.keep hkp) k h
      exact ⟨b1, o1, e, hc⟩
    obtain ⟨x, hx⟩ : ∃ x, la.getD k 0 = x := ⟨_, rfl⟩
    obtain ⟨y, hy⟩ : ∃ y, lb.getD k 0 = y := ⟨_, rfl⟩
    have hxl : x < 4294967296 := hx ▸ Lim_getD hma _
    have hyl : y < 4294967296 := hy ▸ Lim_getD hmb _
    rw [hx] at hgoA
    rw [hy] at hgoB
    have hx0 : ¬ k < la.length → x = 0 := fun h => by rw [← hx]; exact getD_past la k h
    have hy0 : ¬ k < lb.length → y = 0 := fun h => by rw [← hy]; exact getD_past lb k h
    have HS : Hid (∀ n, n = t + x + y → val (q ++ [n % 4294967296]) + n / 4294967296 * 4294967296 ^ (k + 1) = val (la.take (k + 1)) + val (lb.take (k + 1))) := by
      intro n hn
      subst hn
      rw [val_take_succ la, val_take_succ lb, hx, hy, Nat.pow_succ]
      exact snoc_step q _ t x y _ _ (by rw [hql.out]) hv.out (by rw [Nat.add_mul]; omega)
    have Hql : Hid (∀ n, (q ++ [n]).length = k + 1) := by intro n; have := hql.out; simp; omega
    have Hrq : Hid (Rd wr vs q) := hrq
    clear hx hy hrq hra hrb
    by_cases hA : k < la.length
    · obtain ⟨b1, o1, rfl, hc1⟩ := hgoA hA
      by_cases hB : k < lb.length
      · obtain ⟨b2, o2, rfl, hc2⟩ := hgoB hB
        have hand : bits BinOp.and IntKind.u64 ((t : Int) + (x : Int) + (y : Int)) 4294967295 = (((t + x + y) % 4294967296 : Nat) : Int) := by have := and64 (t + x + y) (by omega); simpa using this
        have HN : Hid (t + x + y = t + x + y) := by show _ = _; omega
        clear hgoA hgoB hx0 hy0
        have hNl : t + x + y < 8589934592 := by omega
        go_wp2_with (at_builtin; refine wpList_app32 rfl _ _ rfl q _ rfl _ ((t + x + y) % 4294967296) ?_ rfl hown hkp hql' ?_; rotate_left; intro v' w1 hown' hk')
        go_roundw
        case rel => exact ⟨k + 1, (t + x + y) / 4294967296, q ++ [(t + x + y) % 4294967296], by omega, by omega, by go_num, by simp, hown', Hql.out _, Lim_snoc hmq _ (by omega), HS.out _ HN.out, hk'⟩
        case measure => simp [intOf]; omega
      · have hBf : decide ((k : Int) < (lb.length : Int)) = false := by simp; omega
        have hy1 := hy0 hB
        have hand : bits BinOp.and IntKind.u64 ((t : Int) + (x : Int)) 4294967295 = (((t + x) % 4294967296 : Nat) : Int) := by have := and64 (t + x) (by omega); simpa using this
        have HN : Hid (t + x = t + x + y) := by show _ = _; omega
        clear hgoA hgoB hx0 hy0
        have hNl : t + x < 8589934592 := by omega
        go_wp2_with (at_builtin; refine wpList_app32 rfl _ _ rfl q _ rfl _ ((t + x) % 4294967296) ?_ rfl hown hkp hql' ?_; rotate_left; intro v' w1 hown' hk')
        go_roundw
        case rel => exact ⟨k + 1, (t + x) / 4294967296, q ++ [(t + x) % 4294967296], by omega, by omega, by go_num, by simp, hown', Hql.out _, Lim_snoc hmq _ (by omega), HS.out _ HN.out, hk'⟩
        case measure => simp [intOf]; omega
        · first | rfl | omega | (simp; done) | (simp; omega)
    · have hAf : decide ((k : Int) < (la.length : Int)) = false := by simp; omega
      have hx1 := hx0 hA
      by_cases hB : k < lb.length
      · obtain ⟨b2, o2, rfl, hc2⟩ := hgoB hB
        have hand : bits BinOp.and IntKind.u64 ((t : Int) + (y : Int)) 4294967295 = (((t + y) % 4294967296 : Nat) : Int) := by have := and64 (t + y) (by omega); simpa using this
        have HN : Hid (t + y = t + x + y) := by show _ = _; omega
        clear hgoA hgoB hx0 hy0
        have hNl : t + y < 8589934592 := by omega
        go_wp2_with (at_builtin; refine wpList_app32 rfl _ _ rfl q _ rfl _ ((t + y) % 4294967296) ?_ rfl hown hkp hql' ?_; rotate_left; intro v' w1 hown' hk')
        go_roundw
        case rel => exact ⟨k + 1, (t + y) / 4294967296, q ++ [(t + y) % 4294967296], by omega, by omega, by go_num, by simp, hown', Hql.out _, Lim_snoc hmq _ (by omega), HS.out _ HN.out, hk'⟩
        case measure => simp [intOf]; omega
        · first | rfl | omega | (simp; done) | (simp; omega)
      · have hBf : decide ((k : Int) < (lb.length : Int)) = false := by simp; omega
        have hy1 := hy0 hB
        by_cases hT : 0 < t
        · have hkm : k ≤ max la.length lb.length := by
            rcases Nat.lt_or_ge (max la.length lb.length) k with h | h
            · have h0 := hv.out
              rw [List.take_of_length_le (by omega), List.take_of_length_le (by omega)] at h0
              have := carry0 hma hmb k t _ (by omega) (by omega) h0
              omega
            · exact h
          have hand := and64 t (by omega)
          have HN : Hid (t = t + x + y) := by show _ = _; omega
          clear hgoA hgoB hx0 hy0
          have hNl : t < 8589934592 := by omega
          go_wp2_with (at_builtin; refine wpList_app32 rfl _ _ rfl q _ rfl _ ((t) % 4294967296) ?_ rfl hown hkp hql' ?_; rotate_left; intro v' w1 hown' hk')
          go_roundw
          case rel => exact ⟨k + 1, (t) / 4294967296, q ++ [(t) % 4294967296], by omega, by omega, by go_num, by simp, hown', Hql.out _, Lim_snoc hmq _ (by omega), HS.out _ HN.out, hk'⟩
          case measure => simp [intOf]; omega
          · first | rfl | omega | (simp; done) | (simp; omega)
        · have hTf : decide (0 < (t : Int)) = false := by simp; omega
          clear hgoA hgoB hx0 hy0
          have hN := rNorm_wide vs cq q wr hcq (by omega) Hrq
          have hfin : val q = val la + val lb := by
            have h0 := hv.out
            rw [List.take_of_length_le (by omega), List.take_of_length_le (by omega)] at h0
            have h1 : t = 0 := by omega
            rw [h1] at h0
            omega
          have Hf : Hid (val q = val la + val lb) := hfin
          clear hfin
          go_wp2_with fail
          refine hN.mono ?_
          rintro e w1 ⟨v, rfl, ho, hk1⟩
          go_wp2_with fail
          go_ret
          exact ⟨_, _, rfl, ho.mono hkp.le, Lim_take hmq _, Nrm_take _, by rw [val_take_nl]; exact Hf.out, hkp.trans hk1⟩
end Go.Proofs.YtbjidpooociamaaDoor
