import Derived.Test.YtbjidpooociamaaDoorC18
import Derived.Deep.RegionWith
set_option linter.unusedVariables false
set_option linter.unusedSimpArgs false
namespace Go.Proofs.YtbjidpooociamaaDoor
open Go.RowKit Lb
set_option maxHeartbeats 400000 in
set_option maxRecDepth 100000 in
theorem rNorm_wide (a : Option Addr) (c : Nat) (l : List Nat) (w : World) (_hnc : l.length ≤ c) (hl : l.length ≤ 35184372088831) (hr : Rd w a l) :
    Calls Tryd.prog 18 #[.slice a l.length c] w fun e w' => ∃ v, e = .returned v ∧ Own w.heap.size w' v (l.take (nl l)) ∧ Keep w w' := by
  obtain ⟨i0, hi, hz0, hz1, hz2⟩ := info_parts i62
  go_enter Tryd.func18, Tryd.ntmps18
  go_wp2
  go_loop [3] (fun i => ∃ k : Nat, k ≤ l.length ∧ i = .int .i64 k ∧ ∀ j, k ≤ j → l.getD j 0 = 0) (fun i => (intOf i).toNat)
  case atStart => exact ⟨l.length, Nat.le_refl _, rfl, fun j hj => by simp [List.getD, List.getElem?_eq_none hj]⟩
  case round =>
    obtain ⟨k, hk, rfl, hz⟩ := hrel
    by_cases hc0 : 0 < k ∧ l.getD (k - 1) 0 = 0
    · obtain ⟨h0, hx⟩ := hc0
      obtain ⟨b, o, rfl, hc⟩ := hr (k - 1) (by omega)
      rw [hx] at hc
      have Hx : Hid (l.getD (k - 1) 0 = 0) := hx; clear hx
      go_wp2
      go_round
      case rel => exact ⟨k - 1, by omega, by go_num, fun j hj => by
        by_cases e : j = k - 1
        · subst e; exact Hx.out
        · exact hz j (by omega)⟩
      case measure => simp [intOf]; omega
    · have hnl : nl l = k := nl_eq l k hz (fun h h' => hc0 ⟨h, h'⟩)
      have Hnl : Hid (nl l = k) := hnl
      clear hz hnl
      have hex : (0 < k ∧ ∃ b o x, a = some ⟨b, o, none⟩ ∧ x ≠ 0 ∧ w.cell? ⟨b, o + (k - 1), none⟩ = some (.int .u32 (x : Nat))) ∨ k = 0 := by
        by_cases h0 : 0 < k
        · obtain ⟨b, o, e, hc⟩ := hr (k - 1) (by omega)
          exact .inl ⟨h0, b, o, _, e, fun h => hc0 ⟨h0, h⟩, hc⟩
        · exact .inr (by omega)
      clear hc0
      rcases hex with ⟨h0, b, o, x, rfl, hx0, hc⟩ | rfl
      all_goals
        go_wp2
        go_loopw [4, 5] (fun v i wr => ∃ j : Nat, j ≤ nl l ∧ i = .int .i64 j ∧ Own w.heap.size wr v (l.take j) ∧ Keep w wr) (fun _ i _ => nl l - (intOf i).toNat)
        case atStart => exact ⟨0, by omega, rfl, World.ownsRow_nil _ _ _ _, Keep.refl _⟩
        case round =>
          obtain ⟨j, hj, rfl, hown, hkp⟩ := hrel
          rw [Hnl.out] at hj
          first
          | (have hj0 : j = 0 := by omega
             subst hj0
             go_wp2
             go_ret
             exact ⟨_, rfl, by rw [Hnl.out]; exact hown, hkp⟩)
          | (clear hc
             by_cases hjl : j < k
             · obtain ⟨b', o', e', hc'⟩ := hr j (by omega)
               simp only [Option.some.injEq, Addr.mk.injEq, and_true] at e'
               obtain ⟨rfl, rfl⟩ := e'
               have hc2 := hkp.cell hc'
               clear hc'
               obtain ⟨y, hy⟩ : ∃ y, l.getD j 0 = y := ⟨_, rfl⟩
               rw [hy] at hc2
               have Hy : Hid (l.getD j 0 = y) := hy; clear hy
               have hlen : (l.take j).length < 35184372088832 := by simp; omega
               have hle : (l.take j).length = j := by simp; omega
               go_wp2_with (at_builtin; refine wpList_app32 rfl _ _ rfl (l.take j) _ rfl _ y rfl rfl hown hkp hlen ?_; intro v' w1 hown' hk')
               go_roundw
               case rel => exact ⟨j + 1, by rw [Hnl.out]; omega, by go_num, by rw [take_snoc l j (by omega), Hy.out]; exact hown', hk'⟩
               case measure => have := Hnl.out; simp [intOf]; omega
             · go_wp2
               go_ret
               exact ⟨_, rfl, by rw [Hnl.out, show k = j by omega]; exact hown, hkp⟩)
theorem carry0 {la lb : List Nat} (ha : Lim la) (hb : Lim lb) (k t V : Nat) (h1 : la.length < k) (h2 : lb.length < k) (hv : V + t * 4294967296 ^ k = val la + val lb) : t = 0 := by
  rcases Nat.eq_zero_or_pos t with h | h
  · exact h
  · exfalso
    have a1 := val_lt ha
    have b1 := val_lt hb
    obtain ⟨j, rfl⟩ : ∃ j, k = j + 1 := ⟨k - 1, by omega⟩
    have a2 : 4294967296 ^ la.length ≤ 4294967296 ^ j := Nat.pow_le_pow_right (by omega) (by omega)
    have b2 : 4294967296 ^ lb.length ≤ 4294967296 ^ j := Nat.pow_le_pow_right (by omega) (by omega)
    have h3 : 4294967296 ^ (j + 1) ≤ t * 4294967296 ^ (j + 1) := Nat.le_mul_of_pos_left _ h
    rw [Nat.pow_succ] at h3 hv
    omega
theorem getD_past (l : List Nat) (k : Nat) (h : ¬ k < l.length) : l.getD k 0 = 0 := by simp [List.getD, List.getElem?_eq_none (show l.length ≤ k by omega)]
theorem snoc_step (q : List Nat) (A t x y S X : Nat) (hq : 4294967296 ^ q.length = X) (hv : val q + t * X = A) (hS : S = A + (x + y) * X) : val (q ++ [(t + x + y) % 4294967296]) + (t + x + y) / 4294967296 * (X * 4294967296) = S := by
  have h := Nat.div_add_mod' (t + x + y) 4294967296
  have h2 : ((t + x + y) / 4294967296 * 4294967296 + (t + x + y) % 4294967296) * X = (t + x + y) * X := by rw [h]
  rw [val_snoc, hq]
  grind
set_option maxRecDepth 100000 in
set_option maxHeartbeats 1600000 in
theorem rAdd_any (a b : Option Addr) (ca cb : Nat) (la lb : List Nat) (w : World) (hla : la.length ≤ 35184372088000) (hlb : lb.length ≤ 35184372088000) (hra : Rd w a la) (hrb : Rd w b lb) (hma : Lim la) (hmb : Lim lb) :
    Calls Tryd.prog 34 #[.slice a la.length ca, .slice b lb.length cb] w fun e w' => ∃ v l, e = .returned v ∧ Own w.heap.size w' v l ∧ Lim l ∧ Nrm l ∧ val l = val la + val lb ∧ Keep w w' := by
  go_enter Tryd.func34, Tryd.ntmps34
  go_wp2_with fail
  go_loopw [5, 6, 7] (fun v c i wr => ∃ (k t : Nat) (q : List Nat), k ≤ max la.length lb.length + 1 ∧ t ≤ 1 ∧ i = .int .i64 k ∧ c = .int .u64 t ∧ Own w.heap.size wr v q ∧ Hid (q.length = k) ∧ Lim q ∧ Hid (val q + t * 4294967296 ^ k = val (la.take k) + val (lb.take k)) ∧ Keep w wr) (fun _ _ i _ => max la.length lb.length + 2 - (intOf i).toNat)
  case atStart => exact ⟨0, 0, [], by omega, by omega, rfl, rfl, World.ownsRow_nil _ _ _ _, rfl, by intro x hx; simp at hx, by show _ = _; simp [val], Keep.refl _⟩
  case round =>
    obtain ⟨k, t, q, hk, ht, rfl, rfl, hown, hql, hmq, hv, hkp⟩ := hrel
    have hql' : q.length < 35184372088832 := by rw [hql.out]; omega
    obtain ⟨vs, cq, rfl, hcq, hrq⟩ := hown.shape
    have hgoA : k < la.length → ∃ b1 o1, a = some ⟨b1, o1, none⟩ ∧ wr.cell? ⟨b1, o1 + k, none⟩ = some (.int .u32 (la.getD k 0 : Nat)) := fun h => by
      obtain ⟨b1, o1, e, hc⟩ := (hra.keep hkp) k h
      exact ⟨b1, o1, e, hc⟩
    have hgoB : k < lb.length → ∃ b1 o1, b = some ⟨b1, o1, none⟩ ∧ wr.cell? ⟨b1, o1 + k, none⟩ = some (.int .u32 (lb.getD k 0 : Nat)) := fun h => by
      obtain ⟨b1, o1, e, hc⟩ := (hrb.keep hkp) k h
      exact ⟨b1, o1, e, hc⟩
    obtain ⟨x, hx⟩ : ∃ x, la.getD k 0 = x := ⟨_, rfl⟩
    obtain ⟨y, hy⟩ : ∃ y, lb.getD k 0 = y := ⟨_, rfl⟩
    have hxl : x < 4294967296 := hx ▸ Lim_getD hma _
    have hyl : y < 4294967296 := hy ▸ Lim_getD hmb _
    rw [hx] at hgoA
    rw [hy] at hgoB
    have hx0 : ¬ k < la.length → x = 0 := fun h => by rw [← hx]; exact getD_past la k h
    have hy0 : ¬ k < lb.length → y = 0 := fun h => by rw [← hy]; exact getD_past lb k h
    have HS : Hid (∀ n, n = t + x + y → val (q ++ [n % 4294967296]) + n / 4294967296 * 4294967296 ^ (k + 1) = val (la.take (k + 1)) + val (lb.take (k + 1))) := by
      intro n hn
      subst hn
      rw [val_take_succ la, val_take_succ lb, hx, hy, Nat.pow_succ]
      exact snoc_step q _ t x y _ _ (by rw [hql.out]) hv.out (by rw [Nat.add_mul]; omega)
    have Hql : Hid (∀ n, (q ++ [n]).length = k + 1) := by intro n; have := hql.out; simp; omega
    have Hrq : Hid (Rd wr vs q) := hrq
    clear hx hy hrq hra hrb
    by_cases hA : k < la.length
    · obtain ⟨b1, o1, rfl, hc1⟩ := hgoA hA
      by_cases hB : k < lb.length
      · obtain ⟨b2, o2, rfl, hc2⟩ := hgoB hB
        have hand : bits BinOp.and IntKind.u64 ((t : Int) + (x : Int) + (y : Int)) 4294967295 = (((t + x + y) % 4294967296 : Nat) : Int) := by have := and64 (t + x + y) (by omega); simpa using this
        have HN : Hid (t + x + y = t + x + y) := by show _ = _; omega
        clear hgoA hgoB hx0 hy0
        have hNl : t + x + y < 8589934592 := by omega
        go_wp2_with (at_builtin; refine wpList_app32 rfl _ _ rfl q _ rfl _ ((t + x + y) % 4294967296) ?_ rfl hown hkp hql' ?_; rotate_left; intro v' w1 hown' hk')
        go_roundw
        case rel => exact ⟨k + 1, (t + x + y) / 4294967296, q ++ [(t + x + y) % 4294967296], by omega, by omega, by go_num, by simp, hown', Hql.out _, Lim_snoc hmq _ (by omega), HS.out _ HN.out, hk'⟩
        case measure => simp [intOf]; omega
      · have hBf : decide ((k : Int) < (lb.length : Int)) = false := by simp; omega
        have hy1 := hy0 hB
        have hand : bits BinOp.and IntKind.u64 ((t : Int) + (x : Int)) 4294967295 = (((t + x) % 4294967296 : Nat) : Int) := by have := and64 (t + x) (by omega); simpa using this
        have HN : Hid (t + x = t + x + y) := by show _ = _; omega
        clear hgoA hgoB hx0 hy0
        have hNl : t + x < 8589934592 := by omega
        go_wp2_with (at_builtin; refine wpList_app32 rfl _ _ rfl q _ rfl _ ((t + x) % 4294967296) ?_ rfl hown hkp hql' ?_; rotate_left; intro v' w1 hown' hk')
        go_roundw
        case rel => exact ⟨k + 1, (t + x) / 4294967296, q ++ [(t + x) % 4294967296], by omega, by omega, by go_num, by simp, hown', Hql.out _, Lim_snoc hmq _ (by omega), HS.out _ HN.out, hk'⟩
        case measure => simp [intOf]; omega
        · first | rfl | omega | (simp; done) | (simp; omega)
    · have hAf : decide ((k : Int) < (la.length : Int)) = false := by simp; omega
      have hx1 := hx0 hA
      by_cases hB : k < lb.length
      · obtain ⟨b2, o2, rfl, hc2⟩ := hgoB hB
        have hand : bits BinOp.and IntKind.u64 ((t : Int) + (y : Int)) 4294967295 = (((t + y) % 4294967296 : Nat) : Int) := by have := and64 (t + y) (by omega); simpa using this
        have HN : Hid (t + y = t + x + y) := by show _ = _; omega
        clear hgoA hgoB hx0 hy0
        have hNl : t + y < 8589934592 := by omega
        go_wp2_with (at_builtin; refine wpList_app32 rfl _ _ rfl q _ rfl _ ((t + y) % 4294967296) ?_ rfl hown hkp hql' ?_; rotate_left; intro v' w1 hown' hk')
        go_roundw
        case rel => exact ⟨k + 1, (t + y) / 4294967296, q ++ [(t + y) % 4294967296], by omega, by omega, by go_num, by simp, hown', Hql.out _, Lim_snoc hmq _ (by omega), HS.out _ HN.out, hk'⟩
        case measure => simp [intOf]; omega
        · first | rfl | omega | (simp; done) | (simp; omega)
      · have hBf : decide ((k : Int) < (lb.length : Int)) = false := by simp; omega
        have hy1 := hy0 hB
        by_cases hT : 0 < t
        · have hkm : k ≤ max la.length lb.length := by
            rcases Nat.lt_or_ge (max la.length lb.length) k with h | h
            · have h0 := hv.out
              rw [List.take_of_length_le (by omega), List.take_of_length_le (by omega)] at h0
              have := carry0 hma hmb k t _ (by omega) (by omega) h0
              omega
            · exact h
          have hand := and64 t (by omega)
          have HN : Hid (t = t + x + y) := by show _ = _; omega
          clear hgoA hgoB hx0 hy0
          have hNl : t < 8589934592 := by omega
          go_wp2_with (at_builtin; refine wpList_app32 rfl _ _ rfl q _ rfl _ ((t) % 4294967296) ?_ rfl hown hkp hql' ?_; rotate_left; intro v' w1 hown' hk')
          go_roundw
          case rel => exact ⟨k + 1, (t) / 4294967296, q ++ [(t) % 4294967296], by omega, by omega, by go_num, by simp, hown', Hql.out _, Lim_snoc hmq _ (by omega), HS.out _ HN.out, hk'⟩
          case measure => simp [intOf]; omega
          · first | rfl | omega | (simp; done) | (simp; omega)
        · have hTf : decide (0 < (t : Int)) = false := by simp; omega
          clear hgoA hgoB hx0 hy0
          have hN := rNorm_wide vs cq q wr hcq (by omega) Hrq
          have hfin : val q = val la + val lb := by
            have h0 := hv.out
            rw [List.take_of_length_le (by omega), List.take_of_length_le (by omega)] at h0
            have h1 : t = 0 := by omega
            rw [h1] at h0
            omega
          have Hf : Hid (val q = val la + val lb) := hfin
          clear hfin
          go_wp2_with fail
          refine hN.mono ?_
          rintro e w1 ⟨v, rfl, ho, hk1⟩
          go_wp2_with fail
          go_ret
          exact ⟨_, _, rfl, ho.mono hkp.le, Lim_take hmq _, Nrm_take _, by rw [val_take_nl]; exact Hf.out, hkp.trans hk1⟩
end Go.Proofs.YtbjidpooociamaaDoor
namespace Go.Proofs.YtbjidpooociamaaDoor
open Go.RowKit Lb
theorem subw (x y t : Nat) (hx : x < 4294967296) (hy : y < 4294967296) (ht : t ≤ 1) : ∃ z c : Nat, IntKind.u64.wrap (IntKind.u64.wrap ((x : Int) - (y : Int)) - (t : Int)) % 4294967296 = (z : Int) ∧
    bits BinOp.and IntKind.u64 (IntKind.u64.wrap (IntKind.u64.wrap ((x : Int) - (y : Int)) - (t : Int)) / 4294967296) 1 = (c : Int) ∧ z < 4294967296 ∧ c ≤ 1 ∧ z + y + t = x + c * 4294967296 := by
  obtain ⟨d, hd, hdl, hdv⟩ : ∃ d : Nat, IntKind.u64.wrap (IntKind.u64.wrap ((x : Int) - (y : Int)) - (t : Int)) = (d : Int) ∧ d < 18446744073709551616 ∧ (d + y + t = x ∨ d + y + t = x + 18446744073709551616) := by
    refine ⟨(IntKind.u64.wrap (IntKind.u64.wrap ((x : Int) - (y : Int)) - (t : Int))).toNat, ?_, ?_, ?_⟩ <;> (rw [IntKind.wrap_u64, IntKind.wrap_u64]; omega)
  rw [hd]
  have hb := u64_and_nat (d / 4294967296) 1 (by omega) (by omega)
  rw [Nat.and_one_is_mod] at hb
  refine ⟨d % 4294967296, d / 4294967296 % 2, by omega, by rw [← hb]; simp, by omega, by omega, ?_⟩
  omega
theorem subw1 (x t : Nat) (hx : x < 4294967296) (ht : t ≤ 1) : ∃ z c : Nat, IntKind.u64.wrap ((x : Int) - (t : Int)) % 4294967296 = (z : Int) ∧
    bits BinOp.and IntKind.u64 (IntKind.u64.wrap ((x : Int) - (t : Int)) / 4294967296) 1 = (c : Int) ∧ z < 4294967296 ∧ c ≤ 1 ∧ z + t = x + c * 4294967296 := by
  obtain ⟨d, hd, hdl, hdv⟩ : ∃ d : Nat, IntKind.u64.wrap ((x : Int) - (t : Int)) = (d : Int) ∧ d < 18446744073709551616 ∧ (d + t = x ∨ d + t = x + 18446744073709551616) := by
    refine ⟨(IntKind.u64.wrap ((x : Int) - (t : Int))).toNat, ?_, ?_, ?_⟩ <;> (rw [IntKind.wrap_u64]; omega)
  rw [hd]
  have hb := u64_and_nat (d / 4294967296) 1 (by omega) (by omega)
  rw [Nat.and_one_is_mod] at hb
  refine ⟨d % 4294967296, d / 4294967296 % 2, by omega, by rw [← hb]; simp, by omega, by omega, ?_⟩
  omega
theorem subStep (X V B A t x y z c : Nat) (h : z + y + t = x + c * 4294967296) (hv : V + B = A + t * X) : (V + X * z) + (B + y * X) = (A + x * X) + c * (X * 4294967296) := by
  have h2 : (z + y + t) * X = (x + c * 4294967296) * X := by rw [h]
  grind
set_option maxRecDepth 100000 in
set_option maxHeartbeats 800000 in
theorem take_any (g : Nat) (b : Option Addr) (cb n c : Nat) (r lb : List Nat) (w : World) (hrl : r.length ≤ 70368744177664) (hn : n ≤ r.length) (hrow : Row w g r) (hrb : Rd w b lb) (hoff : Off g b lb) (hm : Lim r) (hmb : Lim lb)
    (hfit : lb.length ≤ n) (hge : val lb ≤ val (r.take n)) :
    Calls Tryd.prog 98 #[.slice (some ⟨g, 0, none⟩) n c, .slice b lb.length cb] w fun e w' => e = .returned (.tuple #[]) ∧ ∃ q, Row w' g (q ++ r.drop n) ∧ q.length = n ∧ Lim q ∧ val q + val lb = val (r.take n) ∧ Mut g w w' := by
  go_enter Tryd.func98, Tryd.ntmps98
  go_wp2_with fail
  go_loopw [4, 11] (fun c i wr => ∃ (k t : Nat) (q : List Nat), k ≤ lb.length ∧ t ≤ 1 ∧ i = .int .i64 k ∧ c = .int .u64 t ∧ Row wr g (q ++ r.drop k) ∧ Hid (q.length = k) ∧ Lim q ∧ Hid (val q + val (lb.take k) = val (r.take k) + t * 4294967296 ^ k) ∧ Mut g w wr) (fun _ i _ => lb.length - (intOf i).toNat)
  case atStart => exact ⟨0, 0, [], by omega, by omega, rfl, rfl, by simpa using hrow, rfl, by intro y hy; simp at hy, by show _ = _; simp [val], Mut.refl _ _⟩
  case round =>
    obtain ⟨k, t, q, hk, ht, rfl, rfl, hrk, hql, hmq, hv, hmut⟩ := hrel
    by_cases hkl : k < lb.length
    · obtain ⟨b1, o1, rfl, hc1⟩ := (hrb.mut hmut hoff) k hkl
      have hc := hrk.cell k (by have := hql.out; simp; omega)
      rw [get_at q r k hql.out (by omega)] at hc
      have hfz := hrk.frozen k
      obtain ⟨x, hx⟩ : ∃ x, r.getD k 0 = x := ⟨_, rfl⟩
      obtain ⟨y, hy⟩ : ∃ y, lb.getD k 0 = y := ⟨_, rfl⟩
      have hxl : x < 4294967296 := hx ▸ Lim_getD hm _
      have hyl : y < 4294967296 := hy ▸ Lim_getD hmb _
      rw [hx] at hc
      rw [hy] at hc1
      have Hx : Hid (r.getD k 0 = x) := hx; clear hx
      have Hy : Hid (lb.getD k 0 = y) := hy; clear hy
      go_wp2
      go_quiet (fail)
      have hmut1 : Mut g w (wr.drewN nq) := hmut.drewN nq
      have hrk1 : Row (wr.drewN nq) g (q ++ r.drop k) := hrk
      have hc2' : (wr.drewN nq).cell? _ = _ := hc
      have hfz' : (wr.drewN nq).frozen? _ = _ := hfz
      clear hc1 hc hfz hmut hrk
      generalize wr.drewN nq = w1 at hmut1 hrk1 hc2' hfz' ⊢
      go_wp2
      go_roundw
      case rel =>
        obtain ⟨z, c, e1, e2, hz, hc, he⟩ := subw x y t hxl hyl ht
        rw [e1, e2]
        refine ⟨k + 1, c, q ++ [z], by omega, hc, by go_num, rfl, ?_, ?_, Lim_snoc hmq _ hz, ?_, hmut1.setCell _ _⟩
        · have h1 := hrk1.set k z
          rw [set_at q r k _ hql.out (by omega)] at h1
          exact h1
        · show _ = _
          have := hql.out
          simp; omega
        · show _ = _
          rw [val_snoc, hql.out, val_take_succ lb, val_take_succ r, Hx.out, Hy.out, Nat.pow_succ]
          exact subStep _ _ _ _ _ _ _ _ _ he hv.out
      case measure => simp [intOf]; omega
    · have hke : k = lb.length := by omega
      subst hke
      rw [List.take_of_length_le (Nat.le_refl _)] at hv
      go_wp2
      go_loopw [4, 7] (fun c i wr => ∃ (j t : Nat) (q : List Nat), j ≤ n ∧ t ≤ 1 ∧ i = .int .i64 j ∧ c = .int .u64 t ∧ Row wr g (q ++ r.drop j) ∧ Hid (q.length = j) ∧ Lim q ∧ Hid (val q + val lb = val (r.take j) + t * 4294967296 ^ j) ∧ Mut g w wr) (fun _ i _ => n - (intOf i).toNat)
      case atStart => exact ⟨lb.length, t, q, hfit, ht, rfl, rfl, hrk, hql, hmq, hv, hmut⟩
      case round =>
        clear hv hmut hmq hql hrk hkl hk ht
        obtain ⟨j, t, q, hj, ht, rfl, rfl, hrk, hql, hmq, hv, hmut⟩ := hrel
        by_cases ht0 : 0 < t
        · have hjl : j < n := by
            rcases Nat.lt_or_ge j n with h | h
            · exact h
            · exfalso
              have h1 := hv.out
              have h2 := val_lt hmq
              rw [hql.out] at h2
              have h3 : 4294967296 ^ j ≤ t * 4294967296 ^ j := Nat.le_mul_of_pos_left _ ht0
              rw [show j = n by omega] at h1 h2 h3
              omega
          have hc := hrk.cell j (by have := hql.out; simp; omega)
          rw [get_at q r j hql.out (by omega)] at hc
          have hfz := hrk.frozen j
          obtain ⟨x, hx⟩ : ∃ x, r.getD j 0 = x := ⟨_, rfl⟩
          have hxl : x < 4294967296 := hx ▸ Lim_getD hm _
          rw [hx] at hc
          have Hx : Hid (r.getD j 0 = x) := hx; clear hx
          go_wp2
          go_roundw
          case rel =>
            obtain ⟨z, c, e1, e2, hz, hc, he⟩ := subw1 x t hxl ht
            rw [e1, e2]
            refine ⟨j + 1, c, q ++ [z], by omega, hc, by go_num, rfl, ?_, ?_, Lim_snoc hmq _ hz, ?_, hmut.setCell _ _⟩
            · have h1 := hrk.set j z
              rw [set_at q r j _ hql.out (by omega)] at h1
              exact h1
            · show _ = _
              have := hql.out
              simp; omega
            · show _ = _
              rw [val_snoc, hql.out, val_take_succ r, Hx.out, Nat.pow_succ]
              have := subStep (4294967296 ^ j) (val q) (val lb) (val (r.take j)) t x 0 z c (by omega) hv.out
              omega
          case measure => simp [intOf]; omega
        · go_wp2
          go_end0
          have ht1 : t = 0 := by omega
          subst ht1
          have hq := hql.out
          have hsplit : r.take n = r.take j ++ (r.drop j).take (n - j) := by
            rw [← List.take_append_drop j (r.take n), List.take_take, List.drop_take, Nat.min_eq_left hj]
          refine ⟨rfl, q ++ (r.drop j).take (n - j), ?_, by simp; omega, ?_, ?_, hmut⟩
          · rw [List.append_assoc]
            have : (r.drop j).take (n - j) ++ r.drop n = r.drop j := by
              have h1 : r.drop n = (r.drop j).drop (n - j) := by rw [List.drop_drop]; congr 1; omega
              rw [h1, List.take_append_drop]
            rw [this]
            exact hrk
          · intro y hy
            rcases List.mem_append.1 hy with hy | hy
            · exact hmq y hy
            · exact hm y (List.mem_of_mem_drop (List.mem_of_mem_take hy))
          · have h1 := hv.out
            rw [hsplit, val_append, val_append, hq, show (r.take j).length = j by simp; omega]
            omega
set_option maxRecDepth 100000 in
set_option maxHeartbeats 400000 in
theorem difference_any (a b : Option Addr) (ca cb : Nat) (la lb : List Nat) (w : World) (hla : la.length ≤ 70368744177664) (hra : Rd w a la) (hrb : Rd w b lb) (hma : Lim la) (hmb : Lim lb) (hfit : lb.length ≤ la.length) (hge : val lb ≤ val la) :
    Calls Tryd.prog 77 #[.slice a la.length ca, .slice b lb.length cb] w fun e w' => ∃ v, e = .returned v ∧ NatR w.heap.size w' v (val la - val lb) ∧ Keep w w' := by
  have hf := fresh_any a ca la w hla hra
  go_enter Tryd.func77, Tryd.ntmps77
  go_wp2_with fail
  refine hf.mono ?_
  rintro e w1 ⟨rfl, hrow, hk, hsz⟩
  have hT := take_any w.heap.size b cb la.length la.length la lb w1 hla (Nat.le_refl _) hrow (hrb.keep hk) (Off.of_lt hrb (Nat.le_refl _)) hma hmb hfit (by rw [List.take_of_length_le (Nat.le_refl _)]; exact hge)
  rw [List.take_of_length_le (Nat.le_refl _), List.drop_eq_nil_of_le (Nat.le_refl _)] at hT
  go_wp2_with fail
  refine hT.mono ?_
  rintro e w2 ⟨rfl, q, hrq, hql, hmq, hvq, hmu⟩
  rw [List.append_nil] at hrq
  have hT2 := trim_any (some ⟨w.heap.size, 0, none⟩) q.length q w2 (Nat.le_refl _) (by omega) hrq.rd0
  rw [hql] at hT2
  clear hT hf
  go_wp2_with fail
  refine hT2.mono ?_
  rintro e w3 ⟨rfl, rfl⟩
  go_wp2
  go_ret
  refine ⟨_, rfl, ?_, hk.mut hmu (Nat.le_refl _)⟩
  have h1 := NatR.of_trim (hrq.res (B := w.heap.size) (Nat.le_refl _)) hmq
  rw [hql, show val q = val la - val lb by omega] at h1
  exact h1
set_option maxRecDepth 100000 in
set_option maxHeartbeats 400000 in
theorem Sub_any (a b : Option Addr) (ca cb : Nat) (la lb : List Nat) (w : World) (hca : la.length ≤ ca) (hcb : lb.length ≤ cb) (hla : la.length ≤ 70368744177664) (hlb : lb.length ≤ 70368744177664) (hra : Rd w a la) (hrb : Rd w b lb) (hma : Lim la) (hmb : Lim lb) :
    Calls Tryd.prog 31 #[.slice a la.length ca, .slice b lb.length cb] w fun e w' => (val la < val lb ∧ e = .returned (.tuple #[.slice none 0 0, .int .i64 12]) ∨ val lb ≤ val la ∧ ∃ v, e = .returned (.tuple #[v, .int .i64 0]) ∧ NatR w.heap.size w' v (val la - val lb)) ∧ Keep w w' := by
  have h1 := nl_le la
  have h2 := nl_le lb
  have e1 : (la.take (nl la)).length = nl la := by simp; omega
  have e2 : (lb.take (nl lb)).length = nl lb := by simp; omega
  have t1 := trim_any a ca la w hca (by omega) hra
  have t2 := trim_any b cb lb w hcb (by omega) hrb
  have hc := compare_any a b ca cb (la.take (nl la)) (lb.take (nl lb)) w (by omega) (by omega) (hra.take _) (hrb.take _)
  rw [e1, e2] at hc
  by_cases hlt : val la < val lb
  · have hcm := cmpL_lt (Lim_take hma (nl la)) (Lim_take hmb (nl lb)) (Nrm_take la) (Nrm_take lb) (by rw [val_take_nl, val_take_nl]; exact hlt)
    rw [hcm] at hc
    clear hcm
    go_enter Tryd.func31, Tryd.ntmps31
    go_wp2_with fail
    refine t1.mono ?_
    rintro e w' ⟨rfl, rfl⟩
    go_wp2_with fail
    refine t2.mono ?_
    rintro e w' ⟨rfl, rfl⟩
    go_wp2_with fail
    refine hc.mono ?_
    rintro e w1 ⟨rfl, hd⟩
    go_wp2
    go_ret2
    exact ⟨.inl ⟨hlt, rfl⟩, hd.keep⟩
  · have hcm := cmpL_ge (Lim_take hma (nl la)) (Lim_take hmb (nl lb)) (Nrm_take la) (Nrm_take lb) (by rw [val_take_nl, val_take_nl]; exact hlt)
    have hfit : (lb.take (nl lb)).length ≤ (la.take (nl la)).length := len_le_of_val (Nrm_take lb) (Lim_take hma _) (by rw [val_take_nl, val_take_nl]; omega)
    have hD := fun w1 (hk : Keep w w1) => difference_any a b ca cb (la.take (nl la)) (lb.take (nl lb)) w1 (by omega) ((hra.keep hk).take _) ((hrb.keep hk).take _) (Lim_take hma _) (Lim_take hmb _) hfit (by rw [val_take_nl, val_take_nl]; omega)
    rw [e1, e2, val_take_nl, val_take_nl] at hD
    generalize cmpL (la.take (nl la)) (lb.take (nl lb)) = z at hcm hc
    have hz : decide (z < 0) = false := by simp; omega
    go_enter Tryd.func31, Tryd.ntmps31
    go_wp2_with fail
    refine t1.mono ?_
    rintro e w' ⟨rfl, rfl⟩
    go_wp2_with fail
    refine t2.mono ?_
    rintro e w' ⟨rfl, rfl⟩
    go_wp2_with fail
    refine hc.mono ?_
    rintro e w1 ⟨rfl, hd⟩
    go_wp2_with fail
    refine (hD w1 hd.keep).mono ?_
    rintro e w2 ⟨v, rfl, hn, hk⟩
    go_wp2
    go_ret2
    exact ⟨.inr ⟨by omega, _, rfl, hn.mono hd.keep.le⟩, hd.keep.trans hk⟩
end Go.Proofs.YtbjidpooociamaaDoor
namespace Go.Proofs.YtbjidpooociamaaDoor
open Go.RowKit Lb
set_option maxRecDepth 100000 in
set_option maxHeartbeats 800000 in
theorem addTimes_any (g o : Nat) (a : Option Addr) (ca c f : Nat) (r la : List Nat) (w : World) (hrl : r.length ≤ 70368744177664) (hrow : Row w g r) (hra : Rd w a la) (hoff : Off g a la) (hm : Lim r) (hma : Lim la) (hf : f < 4294967296)
    (hfit : o + la.length ≤ r.length) :
    Calls Tryd.prog 121 #[.slice (some ⟨g, o, none⟩) la.length c, .slice a la.length ca, .int .u32 (f : Nat)] w fun e w' => ∃ (t : Nat) (r' : List Nat), e = .returned (.int .u32 (t : Nat)) ∧ t < 4294967296 ∧ Row w' g r' ∧ r'.length = r.length ∧ Lim r' ∧ r'.drop (o + la.length) = r.drop (o + la.length) ∧ val r' + t * 4294967296 ^ (o + la.length) = val r + 4294967296 ^ o * (f * val la) ∧ Mut g w w' := by
  go_enter Tryd.func121, Tryd.ntmps121
  go_wp2_with fail
  go_loopw [7, 11] (fun c i wr => ∃ (k t : Nat) (rk : List Nat), k ≤ la.length ∧ t < 4294967296 ∧ i = .int .i64 k ∧ c = .int .u64 t ∧ Row wr g rk ∧ Hid (rk.length = r.length) ∧ Lim rk ∧ Hid (rk.drop (o + k) = r.drop (o + k)) ∧ Hid (val rk + t * 4294967296 ^ (o + k) = val r + 4294967296 ^ o * (f * val (la.take k))) ∧ Mut g w wr) (fun _ i _ => la.length - (intOf i).toNat)
  case atStart => exact ⟨0, 0, r, by omega, by omega, rfl, rfl, hrow, rfl, hm, rfl, by show _ = _; simp [val], Mut.refl _ _⟩
  case round =>
    obtain ⟨k, t, rk, hk, ht, rfl, rfl, hrk, hlen, hmk, hdr, hv, hmut⟩ := hrel
    by_cases hkl : k < la.length
    · obtain ⟨b1, o1, rfl, hc1⟩ := (hra.mut hmut hoff) k hkl
      have hc2 := hrk.cell (o + k) (by rw [hlen.out]; omega)
      have hfz := hrk.frozen (o + k)
      obtain ⟨x, hx⟩ : ∃ x, rk.getD (o + k) 0 = x := ⟨_, rfl⟩
      obtain ⟨y, hy⟩ : ∃ y, la.getD k 0 = y := ⟨_, rfl⟩
      have hxl : x < 4294967296 := hx ▸ Lim_getD hmk _
      have hyl : y < 4294967296 := hy ▸ Lim_getD hma _
      rw [hx] at hc2
      rw [hy] at hc1
      have Hx : Hid (rk.getD (o + k) 0 = x) := hx; clear hx
      have Hy : Hid (la.getD k 0 = y) := hy; clear hy
      have hp := prodB y f hyl hf
      have hpi : (y : Int) * (f : Int) ≤ 18446744065119617025 := by rw [← Int.natCast_mul]; omega
      have hpi0 : 0 ≤ (y : Int) * (f : Int) := by rw [← Int.natCast_mul]; omega
      go_wp2
      go_quiet (fail)
      have hmut1 : Mut g w (wr.drewN nq) := hmut.drewN nq
      have hrk1 : Row (wr.drewN nq) g rk := hrk
      have hc2' : (wr.drewN nq).cell? _ = _ := hc2
      have hfz' : (wr.drewN nq).frozen? _ = _ := hfz
      clear hc1 hc2 hfz hmut hrk
      generalize wr.drewN nq = w1 at hmut1 hrk1 hc2' hfz' ⊢
      go_wp2
      go_roundw
      case rel =>
        refine ⟨k + 1, (t + (x + y * f)) / 4294967296, rk.set (o + k) ((t + (x + y * f)) % 4294967296), by omega, by omega, by go_num, by simp, ?_, ?_, Lim_set hmk _ _ (by omega), ?_, ?_, hmut1.setCell _ _⟩
        · have h1 := hrk1.set (o + k) ((t + (x + y * f)) % 4294967296); simpa using h1
        · show _ = _
          rw [List.length_set]; exact hlen.out
        · show _ = _
          have h1 : rk.drop (o + (k + 1)) = r.drop (o + (k + 1)) := by
            rw [← Nat.add_assoc, ← List.drop_drop, hdr.out, List.drop_drop]
          rw [List.drop_set_of_lt (by omega)]
          exact h1
        · show _ = _
          have h1 := addStep rk (o + k) t x (y * f) _ (by rw [hlen.out]; omega) Hx.out hv.out
          rw [show o + (k + 1) = o + k + 1 from rfl, h1, val_take_succ, Hy.out, Nat.pow_add]
          grind
      case measure => simp [intOf]; omega
    · have hke : k = la.length := by omega
      subst hke
      rw [List.take_of_length_le (Nat.le_refl _)] at hv
      go_wp2
      go_ret
      exact ⟨t, rk, ret_int (by omega), ht, hrk, hlen.out, hmk, hdr.out, hv.out, hmut⟩
/-- A natural without needless limbs at the head of a block of the call's own, which is all limbs. -/
def NatS (B : Nat) (w : World) (v : Value) (n : Nat) : Prop := ∃ g r l, v = .slice (some ⟨g, 0, none⟩) l.length r.length ∧ B ≤ g ∧ Row w g r ∧ l.length ≤ r.length ∧ r.take l.length = l ∧ r.length ≤ 70368744177664 ∧ Lim r ∧ Lim l ∧ Nrm l ∧ val l = n
theorem NatS.natR {B : Nat} {w : World} {v : Value} {n : Nat} (h : NatS B w v n) : NatR B w v n := by
  obtain ⟨g, r, l, h1, h2, h3, h4, h5, h10, h6, h7, h8, h9⟩ := h
  exact ⟨l, .inr ⟨g, r, h1, h2, h3, h4, h5⟩, h7, h8, h9⟩
theorem NatS.mono {B B' : Nat} {w : World} {v : Value} {n : Nat} (h : NatS B w v n) (hB : B' ≤ B) : NatS B' w v n := by
  obtain ⟨g, r, l, h1, h2, h3⟩ := h
  exact ⟨g, r, l, h1, by omega, h3⟩
theorem NatS.keep {B : Nat} {w w' : World} {v : Value} {n : Nat} (h : NatS B w v n) (k : Keep w w') : NatS B w' v n := by
  obtain ⟨g, r, l, h1, h2, h3, h4⟩ := h
  exact ⟨g, r, l, h1, h2, h3.keep k, h4⟩
theorem NatS.of_row {B g : Nat} {w : World} {r : List Nat} (h : Row w g r) (hB : B ≤ g) (hm : Lim r) (hl : r.length ≤ 70368744177664) : NatS B w (.slice (some ⟨g, 0, none⟩) (nl r) r.length) (val r) := by
  have h1 := nl_le r
  have e : (r.take (nl r)).length = nl r := by simp; omega
  exact ⟨g, r, r.take (nl r), by rw [e], hB, h, by omega, by rw [e], hl, hm, Lim_take hm _, Nrm_take _, val_take_nl r⟩
set_option maxRecDepth 100000 in
theorem slice32 (wx : World) (b o n c k m : Nat) (hk : k + m ≤ c) (hc : ¬ c = k) : (Instr.slice 22 (.slice (some ⟨b, o, none⟩) n c) (some (.int .i64 (k : Int))) (some (.int .i64 ((k : Int) + (m : Int)))) none).run Tryd.prog wx = .ok (.slice (some ⟨b, o + k, none⟩) m (c - k)) wx := by
  rw [run_slice_lh (P := Tryd.prog) wx 22 (some ⟨b, o, none⟩) n c Tryd.underlying22 .i64 .i64 k (k + m) (by omega) (by omega) (by omega)]
  have e1 : ((k : Int) + (m : Int)).toNat = k + m := by omega
  have e2 : (sizeOf (Tryd.prog.elem 22)).run Tryd.prog wx = .ok 1 wx := by kernel_rfl
  rw [e2]
  simp [Result.andThen, sliced, hc, e1, Addr.add_lit]
set_option maxRecDepth 100000 in
set_option maxHeartbeats 800000 in
theorem byLimbs_any (a b : Option Addr) (ca cb : Nat) (la lb : List Nat) (w : World) (hla : la.length ≤ 35184372088832) (hlb : lb.length ≤ 35184372088832) (hra : Rd w a la) (hrb : Rd w b lb) (hma : Lim la) (hmb : Lim lb) :
    Calls Tryd.prog 100 #[.slice a la.length ca, .slice b lb.length cb] w fun e w' => ∃ v, e = .returned v ∧ NatS w.heap.size w' v (val la * val lb) ∧ Keep w w' := by
  obtain ⟨N, hN⟩ : ∃ N, la.length + lb.length = N := ⟨_, rfl⟩
  have hsz : N ≤ 70368744177664 := by omega
  have hNi : (la.length : Int) + (lb.length : Int) = (N : Int) := by omega
  have HN : Hid (la.length + lb.length = N) := hN
  clear hN
  go_enter Tryd.func100, Tryd.ntmps100
  go_wp2_with (at_make; refine wpList_make32 _ rfl _ _ rfl _ _ _ _ N rfl rfl rfl rfl hsz ?_; intro w1 hrow hk hsz1)
  clear hNi
  go_loopw [15] (fun i wr => ∃ (k : Nat) (rk : List Nat), k ≤ lb.length ∧ i = .int .i64 k ∧ Row wr w.heap.size rk ∧ Hid (rk.length = N) ∧ Lim rk ∧ Hid (rk.drop (k + la.length) = List.replicate (lb.length - k) 0) ∧ Hid (val rk = val la * val (lb.take k)) ∧ Keep w wr) (fun i _ => lb.length - (intOf i).toNat)
  case atStart => exact ⟨0, _, by omega, rfl, hrow, by show _ = _; simp, by intro x hx; simp at hx; omega, by show _ = _; rw [← HN.out]; simp, by show _ = _; rw [val_zeros _ (by intro j; simp [List.getD, List.getElem?_replicate]; split <;> rfl)]; simp [val], hk⟩
  case round =>
    obtain ⟨k, rk, hkk, rfl, hrk, hlen, hmk, hdr, hv, hkp⟩ := hrel
    have hla1 : k < lb.length → k + la.length < N := by have := HN.out; omega
    by_cases hkl : k < lb.length
    · obtain ⟨b1, o1, rfl, hc1⟩ := (hrb.keep hkp) k hkl
      have hlaN := hla1 hkl
      obtain ⟨y, hy⟩ : ∃ y, lb.getD k 0 = y := ⟨_, rfl⟩
      have hyl : y < 4294967296 := hy ▸ Lim_getD hmb _
      rw [hy] at hc1
      have Hy : Hid (lb.getD k 0 = y) := hy; clear hy
      have hA := fun wx (hr : Row wx w.heap.size rk) (hx : Rd wx a la) => addTimes_any w.heap.size k a ca (N - k) y rk la wx (by rw [hlen.out]; omega) hr hx (Off.of_lt hra (Nat.le_refl _)) hmk hma hyl (by rw [hlen.out]; omega)
      have hsl := fun wx => slice32 wx w.heap.size 0 N N k la.length (by omega) (by omega)
      rw [Nat.zero_add] at hsl
      have hwrap : IntKind.i64.wrap ((k : Int) + (la.length : Int)) = (k : Int) + (la.length : Int) := by rw [IntKind.wrap_i64]; omega
      have htn : ((k : Int) + (la.length : Int)).toNat = k + la.length := by omega
      have hdl : decide (0 ≤ (k : Int) + (la.length : Int)) = true := by simp; omega
      have hra1 := hra.keep hkp
      have hF : ∀ (wx : World) (r' : List Nat), Row wx w.heap.size r' → r'.length = rk.length → (∃ u : Nat, wx.cell? ⟨w.heap.size, k + la.length, none⟩ = some (.int .u32 (u : Nat))) ∧ wx.frozen? ⟨w.heap.size, k + la.length, none⟩ = false := fun wx r' h1 h2 =>
        ⟨⟨_, h1.cell (k + la.length) (by rw [h2, hlen.out]; omega)⟩, h1.frozen _⟩
      go_wp2
      go_region_with (go_at_call 121; refine (hA _ ?_ ?_).mono ?_; exact hrk; exact hra1; rintro e w3 ⟨t, r', rfl, htl, hr3, hl3, hm3, hd3, hv3, hmu3⟩; obtain ⟨⟨u, hu⟩, hfz⟩ := hF _ _ hr3 hl3)
      all_goals go_wp2
      all_goals
        refine ⟨⟨k + 1, r'.set (k + la.length) t, by omega, by go_num, hr3.set _ _, ?_, Lim_set hm3 _ _ htl, ?_, ?_, ?_⟩, by simp [intOf]; omega⟩
        · show _ = _
          rw [List.length_set, hl3]; exact hlen.out
        · show _ = _
          rw [List.drop_set_of_lt (by omega), show k + 1 + la.length = k + la.length + 1 by omega, ← List.drop_drop, hd3, hdr.out]
          simp
          omega
        · show _ = _
          have h0 : r'.getD (k + la.length) 0 = 0 := by
            have h1 : (r'.drop (k + la.length)).getD 0 0 = 0 := by rw [hd3, hdr.out]; simp [List.getD, List.getElem?_replicate]; split <;> rfl
            simpa [List.getD] using h1
          have h1 := val_set r' (k + la.length) t (by rw [hl3, hlen.out]; omega)
          rw [h0] at h1
          rw [hv.out] at hv3
          rw [val_take_succ, Hy.out]
          grind
        · exact (hkp.drew.mut hmu3 (Nat.le_refl _)).setCell (Nat.le_refl _) _
    · have hke : k = lb.length := by omega
      subst hke
      rw [List.take_of_length_le (Nat.le_refl _)] at hv
      have hT := trim_any (some ⟨w.heap.size, 0, none⟩) rk.length rk wr (Nat.le_refl _) (by rw [hlen.out]; omega) hrk.rd0
      rw [hlen.out] at hT
      go_wp2_with fail
      refine hT.mono ?_
      rintro e w3 ⟨rfl, rfl⟩
      go_wp2
      go_ret
      refine ⟨_, rfl, ?_, hkp⟩
      have h1 := NatS.of_row hrk (Nat.le_refl w.heap.size) hmk (by rw [hlen.out]; omega)
      rw [hlen.out, hv.out] at h1
      exact h1
end Go.Proofs.YtbjidpooociamaaDoor
namespace Go.Proofs.YtbjidpooociamaaDoor
open Go.RowKit Lb
/-- What product does, up to so many limbs. -/
def ProductSaid (M : Nat) : Prop := ∀ (a b : Option Addr) (ca cb : Nat) (la lb : List Nat) (w : World), la.length ≤ M → lb.length ≤ M → la.length ≤ ca → lb.length ≤ cb → la.length ≤ 35184372088832 → lb.length ≤ 35184372088832 → Rd w a la → Rd w b lb → Lim la → Lim lb →
    Calls Tryd.prog 79 #[.slice a la.length ca, .slice b lb.length cb] w fun e w' => ∃ v, e = .returned v ∧ NatS w.heap.size w' v (val la * val lb) ∧ Keep w w'
theorem val_take_add (l : List Nat) (k m : Nat) (h : k ≤ l.length) : val (l.take (k + m)) = val (l.take k) + 4294967296 ^ k * val ((l.drop k).take m) := by
  have : l.take (k + m) = l.take k ++ (l.drop k).take m := by rw [List.take_add]
  rw [this, val_append, show (l.take k).length = k by simp; omega]
theorem len_le_pow {l : List Nat} (n : Nrm l) (k : Nat) (h : val l < 4294967296 ^ k) : l.length ≤ k := by
  rcases Nat.lt_or_ge k l.length with h1 | h1
  · have h2 := val_ge n (by intro h0; simp [h0] at h1)
    have h3 : 4294967296 ^ k ≤ 4294967296 ^ (l.length - 1) := Nat.pow_le_pow_right (by omega) (by omega)
    omega
  · exact h1
theorem Rd.drop {w : World} {b o : Nat} {l : List Nat} (h : Rd w (some ⟨b, o, none⟩) l) (k : Nat) : Rd w (some ⟨b, o + k, none⟩) (l.drop k) := by
  intro j hj
  have h1 : k + j < l.length := by simp at hj; omega
  obtain ⟨b', o', e, hc⟩ := h (k + j) h1
  simp only [Option.some.injEq, Addr.mk.injEq, and_true] at e
  obtain ⟨rfl, rfl⟩ := e
  refine ⟨b, o + k, rfl, ?_⟩
  rw [Nat.add_assoc, hc]
  simp [List.getD]
set_option maxRecDepth 100000 in
set_option maxHeartbeats 1600000 in
theorem byPieces_any (M : Nat) (hP : ProductSaid M) (b1 o1 : Nat) (b : Option Addr) (ca cb : Nat) (la lb : List Nat) (w : World) (hM : lb.length ≤ M) (hca : la.length ≤ ca) (hcb : lb.length ≤ cb) (hla : la.length ≤ 35184372088832) (hlb : lb.length ≤ 35184372088832) (hb0 : 0 < lb.length) (hra : Rd w (some ⟨b1, o1, none⟩) la) (hrb : Rd w b lb) (hma : Lim la) (hmb : Lim lb) :
    Calls Tryd.prog 101 #[.slice (some ⟨b1, o1, none⟩) la.length ca, .slice b lb.length cb] w fun e w' => ∃ v, e = .returned v ∧ NatS w.heap.size w' v (val la * val lb) ∧ Keep w w' := by
  obtain ⟨N, hN⟩ : ∃ N, la.length + lb.length = N := ⟨_, rfl⟩
  have hsz : N ≤ 70368744177664 := by omega
  have hNi : (la.length : Int) + (lb.length : Int) = (N : Int) := by omega
  have HN : Hid (la.length + lb.length = N) := hN
  clear hN
  go_enter Tryd.func101, Tryd.ntmps101
  go_wp2_with (at_make; refine wpList_make32 _ rfl _ _ rfl _ _ _ _ N rfl rfl rfl rfl hsz ?_; intro w1 hrow hk hsz1)
  clear hNi
  go_loopw [6] (fun i wr => ∃ (k : Nat) (rk : List Nat), k ≤ N ∧ i = .int .i64 k ∧ Row wr w.heap.size rk ∧ Hid (rk.length = N) ∧ Lim rk ∧ Hid (val rk = val (la.take k) * val lb) ∧ Keep w wr) (fun i _ => N - (intOf i).toNat)
  case atStart => exact ⟨0, _, by omega, rfl, hrow, by show _ = _; simp, by intro x hx; simp at hx; omega, by show _ = _; rw [val_zeros _ (by intro j; simp [List.getD, List.getElem?_replicate]; split <;> rfl)]; simp [val], hk⟩
  case round =>
    obtain ⟨k, rk, hkk, rfl, hrk, hlen, hmk, hv, hkp⟩ := hrel
    by_cases hkl : k < la.length
    · have hra1 := hra.keep hkp
      have hrb1 := hrb.keep hkp
      have hkN : k + lb.length ≤ N := by have := HN.out; omega
      by_cases hc : k + lb.length ≤ la.length
      · have hci : ¬ (la.length : Int) < (k : Int) + (lb.length : Int) := by omega
        have hpl : ((la.drop k).take (lb.length)).length = lb.length := by rw [List.length_take, List.length_drop]; omega
        have hrp := (hra1.drop k).take (lb.length)
        have hmp : Lim ((la.drop k).take (lb.length)) := Lim_take (Lim_drop hma k) _
        have hT := trim_any (some ⟨b1, o1 + k, none⟩) (ca - k) ((la.drop k).take (lb.length)) wr (by rw [hpl]; omega) (by rw [hpl]; omega) hrp
        rw [hpl] at hT
        have hnl := nl_le ((la.drop k).take (lb.length))
        rw [hpl] at hnl
        have hne : ¬ ca = k := by omega
        go_wp2_with fail
        rw [show (min ((k : Int) + (lb.length : Int)) (la.length : Int)).toNat - k = lb.length from by omega]
        refine hT.mono ?_
        rintro e w2 ⟨rfl, rfl⟩
        clear hT
        have hel : (((la.drop k).take (lb.length)).take (nl ((la.drop k).take (lb.length)))).length = nl ((la.drop k).take (lb.length)) := by rw [List.length_take, hpl]; omega
        have hPr := hP (some ⟨b1, o1 + k, none⟩) b (ca - k) cb (((la.drop k).take (lb.length)).take (nl ((la.drop k).take (lb.length)))) lb w2 (by rw [hel]; omega) hM (by rw [hel]; omega) hcb (by rw [hel]; omega) hlb (hrp.take _) hrb1 (Lim_take hmp _) hmb
        rw [hel, val_take_nl] at hPr
        go_wp2_with fail
        refine hPr.mono ?_
        rintro e w3 ⟨v, rfl, ⟨gp, rp, lp, rfl, hgp, hrowp, hlp1, hlp2, -, hlimr, hlimp, hnp, hvp⟩, hk3⟩
        clear hPr
        have hvl := val_lt hmp
        rw [hpl] at hvl
        have hvb := val_lt hmb
        have hrk3 := hrk.keep hk3
        have hrdp : Rd w3 (some ⟨gp, 0, none⟩) lp := by have := hrowp.rd 0 lp.length (by omega); rw [List.drop_zero, hlp2] at this; exact this
        have hoffp : Off w.heap.size (some ⟨gp, 0, none⟩) lp := by
          intro b' o' s' e' _
          simp at e'
          have := hrk.lt
          omega
        have hlpl : lp.length ≤ lb.length + lb.length := len_le_pow hnp _ (by
          rw [hvp, Nat.pow_add]
          have h0 : 0 < 4294967296 ^ lb.length := Nat.pos_of_ne_zero (by simp)
          exact Nat.lt_of_lt_of_le (Nat.mul_lt_mul_of_lt_of_le hvl (Nat.le_of_lt hvb) h0) (Nat.le_refl _))
        have hNN := HN.out
        have hstep : val rk + 4294967296 ^ k * val lp = val (la.take (k + lb.length)) * val lb := by
          rw [hv.out, hvp, val_take_add la k (lb.length) (by omega)]
          grind
        have hroom : val rk + 4294967296 ^ k * val lp < 4294967296 ^ rk.length := by
          rw [hstep, hlen.out, ← hNN, Nat.pow_add]
          have h1 := val_lt (Lim_take hma (k + lb.length))
          have h2 : 4294967296 ^ (la.take (k + lb.length)).length ≤ 4294967296 ^ la.length := Nat.pow_le_pow_right (by omega) (by rw [List.length_take]; omega)
          have h0 : 0 < 4294967296 ^ lb.length := Nat.pos_of_ne_zero (by simp)
          exact Nat.mul_lt_mul_of_lt_of_le (by omega) (Nat.le_of_lt hvb) h0
        have hA := addAt_any w.heap.size (some ⟨gp, 0, none⟩) rp.length k rk lp w3 (by rw [hlen.out]; omega) hrk3 hrdp hoffp hmk hlimp (by rw [hlen.out]; omega) hroom
        rw [hlen.out] at hA
        have Hstep : Hid (val rk + 4294967296 ^ k * val lp = val (la.take (k + lb.length)) * val lb) := hstep
        clear hstep hroom hNN
        go_wp2_with fail
        refine hA.mono ?_
        rintro e w4 ⟨rfl, r', hr4, hl4, hm4, hv4, hmu4⟩
        clear hA
        go_wp2_with fail
        go_roundw
        case rel =>
          refine ⟨k + lb.length, r', by have := HN.out; omega, by go_num, hr4, hl4, hm4, ?_, (hkp.trans hk3).mut hmu4 (Nat.le_refl _)⟩
          show _ = _
          rw [hv4, Hstep.out]
        case measure => simp [intOf]; omega
      · have hci : (la.length : Int) < (k : Int) + (lb.length : Int) := by omega
        have hpl : ((la.drop k).take (la.length - k)).length = la.length - k := by rw [List.length_take, List.length_drop]; omega
        have hrp := (hra1.drop k).take (la.length - k)
        have hmp : Lim ((la.drop k).take (la.length - k)) := Lim_take (Lim_drop hma k) _
        have hT := trim_any (some ⟨b1, o1 + k, none⟩) (ca - k) ((la.drop k).take (la.length - k)) wr (by rw [hpl]; omega) (by rw [hpl]; omega) hrp
        rw [hpl] at hT
        have hnl := nl_le ((la.drop k).take (la.length - k))
        rw [hpl] at hnl
        have hne : ¬ ca = k := by omega
        go_wp2_with fail
        rw [show (min ((k : Int) + (lb.length : Int)) (la.length : Int)).toNat - k = la.length - k from by omega]
        refine hT.mono ?_
        rintro e w2 ⟨rfl, rfl⟩
        clear hT
        have hel : (((la.drop k).take (la.length - k)).take (nl ((la.drop k).take (la.length - k)))).length = nl ((la.drop k).take (la.length - k)) := by rw [List.length_take, hpl]; omega
        have hPr := hP (some ⟨b1, o1 + k, none⟩) b (ca - k) cb (((la.drop k).take (la.length - k)).take (nl ((la.drop k).take (la.length - k)))) lb w2 (by rw [hel]; omega) hM (by rw [hel]; omega) hcb (by rw [hel]; omega) hlb (hrp.take _) hrb1 (Lim_take hmp _) hmb
        rw [hel, val_take_nl] at hPr
        go_wp2_with fail
        refine hPr.mono ?_
        rintro e w3 ⟨v, rfl, ⟨gp, rp, lp, rfl, hgp, hrowp, hlp1, hlp2, -, hlimr, hlimp, hnp, hvp⟩, hk3⟩
        clear hPr
        have hvl := val_lt hmp
        rw [hpl] at hvl
        have hvb := val_lt hmb
        have hrk3 := hrk.keep hk3
        have hrdp : Rd w3 (some ⟨gp, 0, none⟩) lp := by have := hrowp.rd 0 lp.length (by omega); rw [List.drop_zero, hlp2] at this; exact this
        have hoffp : Off w.heap.size (some ⟨gp, 0, none⟩) lp := by
          intro b' o' s' e' _
          simp at e'
          have := hrk.lt
          omega
        have hlpl : lp.length ≤ la.length - k + lb.length := len_le_pow hnp _ (by
          rw [hvp, Nat.pow_add]
          have h0 : 0 < 4294967296 ^ lb.length := Nat.pos_of_ne_zero (by simp)
          exact Nat.lt_of_lt_of_le (Nat.mul_lt_mul_of_lt_of_le hvl (Nat.le_of_lt hvb) h0) (Nat.le_refl _))
        have hNN := HN.out
        have hstep : val rk + 4294967296 ^ k * val lp = val (la.take (k + (la.length - k))) * val lb := by
          rw [hv.out, hvp, val_take_add la k (la.length - k) (by omega)]
          grind
        have hroom : val rk + 4294967296 ^ k * val lp < 4294967296 ^ rk.length := by
          rw [hstep, hlen.out, ← hNN, Nat.pow_add]
          have h1 := val_lt (Lim_take hma (k + (la.length - k)))
          have h2 : 4294967296 ^ (la.take (k + (la.length - k))).length ≤ 4294967296 ^ la.length := Nat.pow_le_pow_right (by omega) (by rw [List.length_take]; omega)
          have h0 : 0 < 4294967296 ^ lb.length := Nat.pos_of_ne_zero (by simp)
          exact Nat.mul_lt_mul_of_lt_of_le (by omega) (Nat.le_of_lt hvb) h0
        have hA := addAt_any w.heap.size (some ⟨gp, 0, none⟩) rp.length k rk lp w3 (by rw [hlen.out]; omega) hrk3 hrdp hoffp hmk hlimp (by rw [hlen.out]; omega) hroom
        rw [hlen.out] at hA
        have Hstep : Hid (val rk + 4294967296 ^ k * val lp = val (la.take (k + (la.length - k))) * val lb) := hstep
        clear hstep hroom hNN
        go_wp2_with fail
        refine hA.mono ?_
        rintro e w4 ⟨rfl, r', hr4, hl4, hm4, hv4, hmu4⟩
        clear hA
        go_wp2_with fail
        go_roundw
        case rel =>
          refine ⟨k + lb.length, r', by have := HN.out; omega, by go_num, hr4, hl4, hm4, ?_, (hkp.trans hk3).mut hmu4 (Nat.le_refl _)⟩
          show _ = _
          rw [hv4, Hstep.out]
          rw [List.take_of_length_le (show la.length ≤ k + (la.length - k) by omega), List.take_of_length_le (show la.length ≤ k + lb.length by omega)]
        case measure => simp [intOf]; omega
    · have hT := trim_any (some ⟨w.heap.size, 0, none⟩) rk.length rk wr (Nat.le_refl _) (by rw [hlen.out]; omega) hrk.rd0
      rw [hlen.out] at hT
      go_wp2_with fail
      refine hT.mono ?_
      rintro e w3 ⟨rfl, rfl⟩
      go_wp2_with fail
      go_ret
      refine ⟨_, rfl, ?_, hkp⟩
      have h1 := NatS.of_row hrk (Nat.le_refl w.heap.size) hmk (by rw [hlen.out]; omega)
      rw [hlen.out, hv.out, List.take_of_length_le (by omega)] at h1
      exact h1
end Go.Proofs.YtbjidpooociamaaDoor
namespace Go.Proofs.YtbjidpooociamaaDoor
open Go.RowKit Lb
set_option maxRecDepth 100000 in
theorem slice32_from (wx : World) (b o ob n c k : Nat) (hk : k ≤ n) (hob : (c = k ∧ ob = o) ∨ (¬ c = k ∧ ob = o + k)) : (Instr.slice 22 (.slice (some ⟨b, o, none⟩) n c) (some (.int .i64 (k : Int))) none none).run Tryd.prog wx = .ok (.slice (some ⟨b, ob, none⟩) (n - k) (c - k)) wx := by
  rw [run_slice_l (P := Tryd.prog) wx 22 (some ⟨b, o, none⟩) n c Tryd.underlying22 .i64 k (by omega) (by omega)]
  have e2 : (sizeOf (Tryd.prog.elem 22)).run Tryd.prog wx = .ok 1 wx := by kernel_rfl
  rw [e2]
  rcases hob with ⟨h1, rfl⟩ | ⟨h1, rfl⟩
  · simp [Result.andThen, sliced, h1]
  · simp [Result.andThen, sliced, h1, Addr.add_lit]
theorem sup_len (ll lh : List Nat) (N h : Nat) (h1 : ll.length ≤ 2 * h) (h2 : lh.length ≤ N - 2 * h) (h3 : 2 * h ≤ N) :
    (((List.replicate N 0).take 0 ++ (ll ++ (List.replicate N 0).drop (0 + ll.length))).take (2 * h) ++ (lh ++ ((List.replicate N 0).take 0 ++ (ll ++ (List.replicate N 0).drop (0 + ll.length))).drop (2 * h + lh.length))).length = N := by
  simp; omega
theorem val_rep (n : Nat) : val (List.replicate n 0) = 0 := val_zeros _ (by intro j; simp [List.getD, List.getElem?_replicate]; split <;> rfl)
theorem sup_val (ll lh : List Nat) (N h : Nat) (h1 : ll.length ≤ 2 * h) (_h2 : lh.length ≤ N - 2 * h) (h3 : 2 * h ≤ N) :
    val (((List.replicate N 0).take 0 ++ (ll ++ (List.replicate N 0).drop (0 + ll.length))).take (2 * h) ++ (lh ++ ((List.replicate N 0).take 0 ++ (ll ++ (List.replicate N 0).drop (0 + ll.length))).drop (2 * h + lh.length))) = val ll + 4294967296 ^ (2 * h) * val lh := by
  have e1 : ((List.replicate N 0).take 0 ++ (ll ++ (List.replicate N 0).drop (0 + ll.length))) = ll ++ List.replicate (N - ll.length) 0 := by simp
  rw [e1, List.take_append, List.take_of_length_le h1, List.take_replicate, List.drop_append, List.drop_eq_nil_of_le (by omega), List.nil_append, List.drop_replicate, val_append, val_append, val_append, val_rep, val_rep]
  have e2 : (ll ++ List.replicate (min (2 * h - ll.length) (N - ll.length)) 0).length = 2 * h := by simp; omega
  rw [e2]
  simp
theorem sup_lim (ll lh : List Nat) (N h : Nat) (h1 : Lim ll) (h2 : Lim lh) :
    Lim (((List.replicate N 0).take 0 ++ (ll ++ (List.replicate N 0).drop (0 + ll.length))).take (2 * h) ++ (lh ++ ((List.replicate N 0).take 0 ++ (ll ++ (List.replicate N 0).drop (0 + ll.length))).drop (2 * h + lh.length))) := by
  have hR : Lim ((List.replicate N 0).take 0 ++ (ll ++ (List.replicate N 0).drop (0 + ll.length))) := by
    intro x hx
    simp at hx
    rcases hx with hx | hx
    · exact h1 x hx
    · omega
  intro x hx
  rcases List.mem_append.1 hx with hx | hx
  · exact hR x (List.mem_of_mem_take hx)
  · rcases List.mem_append.1 hx with hx | hx
    · exact h2 x hx
    · exact hR x (List.mem_of_mem_drop hx)
set_option maxRecDepth 100000 in
set_option maxHeartbeats 800000 in
theorem byHalves_any (M : Nat) (hP : ProductSaid M) (b1 o1 b2 o2 h : Nat) (ca cb : Nat) (la lb : List Nat) (w : World) (hh : h = (la.length + 1) / 2) (hM : h + 1 ≤ M) (hca : la.length ≤ ca) (hcb : lb.length ≤ cb) (hla : la.length ≤ 35184372088832) (hge : lb.length ≤ la.length) (hlt : la.length < 2 * lb.length) (h40 : 40 < lb.length) (hra : Rd w (some ⟨b1, o1, none⟩) la) (hrb : Rd w (some ⟨b2, o2, none⟩) lb) (hma : Lim la) (hmb : Lim lb) :
    Calls Tryd.prog 102 #[.slice (some ⟨b1, o1, none⟩) la.length ca, .slice (some ⟨b2, o2, none⟩) lb.length cb] w fun e w' => ∃ v, e = .returned v ∧ NatS w.heap.size w' v (val la * val lb) ∧ Keep w w' := by
  have hhi : ((la.length : Int) + 1) / 2 = (h : Int) := by omega
  have hh1 : h ≤ lb.length := by omega
  have hh2 : h < la.length := by omega
  have e1 : (la.take h).length = h := by simp; omega
  have e2 : (lb.take h).length = h := by simp; omega
  have T1 := fun wx (hk : Keep w wx) => trim_any (some ⟨b1, o1, none⟩) ca (la.take h) wx (by omega) (by omega) ((hra.keep hk).take h)
  have T2 := fun wx (hk : Keep w wx) => trim_any (some ⟨b2, o2, none⟩) cb (lb.take h) wx (by omega) (by omega) ((hrb.keep hk).take h)
  rw [e1] at T1
  rw [e2] at T2
  have HH : Hid (h = (la.length + 1) / 2) := hh
  clear hh
  have hcah : ¬ ca = h := by omega
  have l0 := nl_le (la.take h)
  have m0 := nl_le (lb.take h)
  rw [e1] at l0
  rw [e2] at m0
  have f1 : ((la.take h).take (nl (la.take h))).length = nl (la.take h) := by rw [List.length_take, e1]; omega
  have f2 : ((lb.take h).take (nl (lb.take h))).length = nl (lb.take h) := by rw [List.length_take, e2]; omega
  have f3 : (la.drop h).length = la.length - h := List.length_drop
  have f4 : (lb.drop h).length = lb.length - h := List.length_drop
  have g1 := val_take_nl (la.take h)
  have g2 := val_take_nl (lb.take h)
  have RA0 := fun wx (hk : Keep w wx) => ((hra.keep hk).take h).take (nl (la.take h))
  have RB0 := fun wx (hk : Keep w wx) => ((hrb.keep hk).take h).take (nl (lb.take h))
  have RA1 := fun wx (hk : Keep w wx) => (hra.keep hk).drop h
  have RB1 : ∀ wx (_hk : Keep w wx), Rd wx (some ⟨b2, (if cb = h then o2 else o2 + h), none⟩) (lb.drop h) := by
    intro wx hk
    split
    · rw [List.drop_eq_nil_of_le (by omega)]; exact Rd.nil _ _
    · exact (hrb.keep hk).drop h
  have LA0 : Lim ((la.take h).take (nl (la.take h))) := Lim_take (Lim_take hma _) _
  have LB0 : Lim ((lb.take h).take (nl (lb.take h))) := Lim_take (Lim_take hmb _) _
  have LA1 := Lim_drop hma h
  have LB1 := Lim_drop hmb h
  have vA0 : val (la.take h) < 4294967296 ^ h := by have := val_lt (Lim_take hma h); rwa [e1] at this
  have vB0 : val (lb.take h) < 4294967296 ^ h := by have := val_lt (Lim_take hmb h); rwa [e2] at this
  have vA1 : val (la.drop h) < 4294967296 ^ (la.length - h) := by have := val_lt LA1; rwa [f3] at this
  have vB1 : val (lb.drop h) < 4294967296 ^ (lb.length - h) := by have := val_lt LB1; rwa [f4] at this
  have sA : val la = val (la.take h) + 4294967296 ^ h * val (la.drop h) := by
    have := val_append (la.take h) (la.drop h); rw [List.take_append_drop, e1] at this; exact this
  have sB : val lb = val (lb.take h) + 4294967296 ^ h * val (lb.drop h) := by
    have := val_append (lb.take h) (lb.drop h); rw [List.take_append_drop, e2] at this; exact this
  generalize (la.take h).take (nl (la.take h)) = A0 at *
  generalize (lb.take h).take (nl (lb.take h)) = B0 at *
  generalize la.drop h = A1 at *
  generalize lb.drop h = B1 at *
  generalize nl (la.take h) = n0 at *
  generalize nl (lb.take h) = k0 at *
  have F1 : Hid (A0.length = n0) := f1
  have F2 : Hid (B0.length = k0) := f2
  have F3 : Hid (A1.length = la.length - h) := f3
  have F4 : Hid (B1.length = lb.length - h) := f4
  have G1 : Hid (val A0 = val (la.take h)) := g1
  have G2 : Hid (val B0 = val (lb.take h)) := g2
  have SA : Hid (val la = val (la.take h) + 4294967296 ^ h * val A1) := sA
  have SB : Hid (val lb = val (lb.take h) + 4294967296 ^ h * val B1) := sB
  have VV : Hid (val (la.take h) < 4294967296 ^ h ∧ val (lb.take h) < 4294967296 ^ h ∧ val A1 < 4294967296 ^ (la.length - h) ∧ val B1 < 4294967296 ^ (lb.length - h)) := ⟨vA0, vB0, vA1, vB1⟩
  clear f1 f2 f3 f4 g1 g2 sA sB e1 e2 vA0 vB0 vA1 vB1
  have hcases : ∃ ob, (∀ wx (_hk : Keep w wx), Rd wx (some ⟨b2, ob, none⟩) B1) ∧ ((cb = h ∧ ob = o2) ∨ (¬ cb = h ∧ ob = o2 + h)) := by
    by_cases hc : cb = h
    · rw [if_pos hc] at RB1; exact ⟨_, RB1, .inl ⟨hc, rfl⟩⟩
    · rw [if_neg hc] at RB1; exact ⟨_, RB1, .inr ⟨hc, rfl⟩⟩
  clear RB1
  obtain ⟨ob, RB1, hob⟩ := hcases
  have hsl := fun wx => slice32_from wx b2 o2 ob lb.length cb h hh1 hob
  clear hob
  go_enter Tryd.func102, Tryd.ntmps102
  go_wp2_with fail
  go_quiet ((go_at_call 68; exact Calls.quiet_of_same (T1 _ ((Keep.refl w).drewN _))))
  have hk1 : Keep w (w.drewN nq) := (Keep.refl w).drewN _
  generalize w.drewN nq = w1 at hk1 ⊢
  go_wp2_with fail
  go_quiet ((go_at_call 68; exact Calls.quiet_of_same (T2 _ (hk1.drewN _))))
  have hk2 : Keep w (w1.drewN nq) := hk1.drewN _
  generalize w1.drewN nq = w2 at hk2 ⊢
  have P1 := hP _ _ ca cb A0 B0 w2 (by have := F1.out; omega) (by have := F2.out; omega) (by have := F1.out; omega) (by have := F2.out; omega) (by have := F1.out; omega) (by have := F2.out; omega) (RA0 w2 hk2) (RB0 w2 hk2) LA0 LB0
  rw [F1.out, F2.out] at P1
  clear T1 T2 hsl
  go_wp2_with fail
  refine P1.mono ?_
  rintro e w3 ⟨v3, rfl, h3, hk3⟩
  clear P1
  obtain ⟨gl, rl, ll, rfl, hgl, rowl, hll1, hll2, -, limrl, limll, nll, vll⟩ := h3
  have hk03 := hk2.trans hk3
  have P2 := hP _ _ (ca - h) (cb - h) A1 B1 w3 (by have := F3.out; omega) (by have := F4.out; omega) (by have := F3.out; omega) (by have := F4.out; omega) (by have := F3.out; omega) (by have := F4.out; omega) (RA1 w3 hk03) (RB1 w3 hk03) LA1 LB1
  rw [F3.out, F4.out] at P2
  go_wp2_with fail
  refine P2.mono ?_
  rintro e w4 ⟨v4, rfl, h4, hk4⟩
  clear P2
  obtain ⟨gh, rh, lh, rfl, hgh, rowh, hlh1, hlh2, -, limrh, limlh, nlh, vlh⟩ := h4
  have hk04 := hk03.trans hk4
  have S1 := sum_any _ _ ca (ca - h) A0 A1 w4 (by have := F1.out; omega) (by have := F3.out; omega) (RA0 w4 hk04) (RA1 w4 hk04) LA0 LA1
  rw [F1.out, F3.out] at S1
  go_wp2_with fail
  refine S1.mono ?_
  rintro e w5 ⟨v5, rfl, h5, hk5⟩
  clear S1
  obtain ⟨a5, c5, l5, rfl, hc5, rd5, lim5, nrm5, val5, -⟩ := h5.shape
  have hk05 := hk04.trans hk5
  have S2 := sum_any _ _ cb (cb - h) B0 B1 w5 (by have := F2.out; omega) (by have := F4.out; omega) (RB0 w5 hk05) (RB1 w5 hk05) LB0 LB1
  rw [F2.out, F4.out] at S2
  go_wp2_with fail
  refine S2.mono ?_
  rintro e w6 ⟨v6, rfl, h6, hk6⟩
  clear S2
  obtain ⟨a6, c6, l6, rfl, hc6, rd6, lim6, nrm6, val6, -⟩ := h6.shape
  have hk06 := hk05.trans hk6
  obtain ⟨vA0, vB0, vA1, vB1⟩ := VV.out
  have pA1 : val A1 < 4294967296 ^ h := Nat.lt_of_lt_of_le vA1 (Nat.pow_le_pow_right (by omega) (by have := HH.out; omega))
  have pB1 : val B1 < 4294967296 ^ h := Nat.lt_of_lt_of_le vB1 (Nat.pow_le_pow_right (by omega) (by have := HH.out; omega))
  have q5 : l5.length ≤ h + 1 := len_le_pow nrm5 _ (by rw [val5, G1.out, Nat.pow_succ]; omega)
  have q6 : l6.length ≤ h + 1 := len_le_pow nrm6 _ (by rw [val6, G2.out, Nat.pow_succ]; omega)
  have P3 := hP a5 a6 c5 c6 l5 l6 w6 (by omega) (by omega) hc5 hc6 (by omega) (by omega) (rd5.keep hk6) rd6 lim5 lim6
  rw [val5, val6, G1.out, G2.out] at P3
  rw [G1.out, G2.out] at vll
  have VLL : Hid (val ll = val (la.take h) * val (lb.take h)) := vll
  have VLH : Hid (val lh = val A1 * val B1) := vlh
  have PP : Hid (val A1 < 4294967296 ^ h ∧ val B1 < 4294967296 ^ h) := ⟨pA1, pB1⟩
  clear vA0 vB0 vA1 vB1 pA1 pB1 val5 val6 vll vlh h5 h6
  go_wp2_with fail
  refine P3.mono ?_
  rintro e w7 ⟨v7, rfl, h7, hk7⟩
  clear P3
  obtain ⟨gm, rm, lm, rfl, hgm, rowm, hlm1, hlm2, rlm, limrm, limlm, nlm, vlm⟩ := h7
  have hk07 := hk06.trans hk7
  have hd1 : val (la.take h) * val (lb.take h) ≤ val lm := by rw [vlm]; grind
  have kl7 : Keep w3 w7 := ((hk4.trans hk5).trans hk6).trans hk7
  have kh7 : Keep w4 w7 := (hk5.trans hk6).trans hk7
  have rl7 := rowl.keep kl7
  have rh7 := rowh.keep kh7
  have ltl : gl < w6.heap.size := Nat.lt_of_lt_of_le rowl.lt ((hk4.trans hk5).trans hk6).le
  have lth : gh < w6.heap.size := Nat.lt_of_lt_of_le rowh.lt (hk5.trans hk6).le
  have rdl7 : Rd w7 (some ⟨gl, 0, none⟩) ll := by have := rl7.rd 0 ll.length (by omega); rw [List.drop_zero, hll2] at this; exact this
  have offl : Off gm (some ⟨gl, 0, none⟩) ll := by intro b' o' s' e' _; simp at e'; omega
  have offh : Off gm (some ⟨gh, 0, none⟩) lh := by intro b' o' s' e' _; simp at e'; omega
  have T3 := take_any gm (some ⟨gl, 0, none⟩) rl.length lm.length rm.length rm ll w7 rlm hlm1 rowm rdl7 offl limrm limll (len_le_of_val nll limlm (by rw [VLL.out]; exact hd1)) (by rw [hlm2, VLL.out]; exact hd1)
  rw [hlm2] at T3
  go_wp2_with fail
  refine T3.mono ?_
  rintro e w8 ⟨rfl, q8, row8, len8, lim8, val8, mut8⟩
  clear T3
  have hval8 : val q8 = val (la.take h) * val B1 + val A1 * val (lb.take h) + val A1 * val B1 := by rw [VLL.out] at val8; rw [vlm] at val8; grind
  have l8 : (q8 ++ rm.drop lm.length).length = rm.length := by simp; omega
  have lr8 : Lim (q8 ++ rm.drop lm.length) := by
    intro y hy
    rcases List.mem_append.1 hy with hy | hy
    · exact lim8 y hy
    · exact limrm y (List.mem_of_mem_drop hy)
  have t8 : (q8 ++ rm.drop lm.length).take lm.length = q8 := by rw [List.take_append_of_le_length (by omega), List.take_of_length_le (by omega)]
  have d8 : (q8 ++ rm.drop lm.length).drop lm.length = rm.drop lm.length := by rw [List.drop_append_of_le_length (by omega), List.drop_eq_nil_of_le (by omega)]; rfl
  have rh8 := rh7.mut mut8 (by omega)
  have rl8 := rl7.mut mut8 (by omega)
  have rdh8 : Rd w8 (some ⟨gh, 0, none⟩) lh := by have := rh8.rd 0 lh.length (by omega); rw [List.drop_zero, hlh2] at this; exact this
  have hd2 : val lh ≤ val q8 := by rw [VLH.out, hval8]; exact Nat.le_add_left _ _
  have T4 := take_any gm (some ⟨gh, 0, none⟩) rh.length lm.length rm.length (q8 ++ rm.drop lm.length) lh w8 (by omega) (by omega) row8 rdh8 offh lr8 limlh (by rw [← len8]; exact len_le_of_val nlh lim8 hd2) (by rw [t8]; exact hd2)
  rw [t8, d8] at T4
  have HQ8 : Hid (val q8 = val (la.take h) * val B1 + val A1 * val (lb.take h) + val A1 * val B1) := hval8
  have L8 : Hid (q8.length = lm.length) := len8
  clear l8 t8 d8 vlm val8 hval8 len8 hd1 hd2
  go_wp2_with fail
  refine T4.mono ?_
  rintro e w9 ⟨rfl, q9, row9, len9, lim9, val9, mut9⟩
  clear T4
  have HQ9 : Hid (val q9 = val (la.take h) * val B1 + val A1 * val (lb.take h)) := by show _ = _; rw [VLH.out, HQ8.out] at val9; omega
  have L9 : Hid (q9.length = lm.length) := len9
  have rl9 := rl8.mut mut9 (by omega)
  have rh9 := rh8.mut mut9 (by omega)
  clear val9 len9
  obtain ⟨N, hN⟩ : ∃ N, la.length + lb.length = N := ⟨_, rfl⟩
  have hsz : N ≤ 70368744177664 := by omega
  have hNi : (la.length : Int) + (lb.length : Int) = (N : Int) := by omega
  have h2N : 2 * h ≤ N := by have := HH.out; omega
  have HN : Hid (la.length + lb.length = N) := hN
  clear hN
  obtain ⟨vA0, vB0, vA1, vB1⟩ := VV.out
  have q_ll : ll.length ≤ 2 * h := len_le_pow nll _ (by
    rw [VLL.out, show 2 * h = h + h by omega, Nat.pow_add]
    exact Nat.mul_lt_mul_of_lt_of_le vA0 (Nat.le_of_lt vB0) (Nat.pos_of_ne_zero (by simp)))
  have q_lh : lh.length ≤ N - 2 * h := len_le_pow nlh _ (by
    rw [VLH.out, show N - 2 * h = (la.length - h) + (lb.length - h) by (have := HN.out; omega), Nat.pow_add]
    exact Nat.mul_lt_mul_of_lt_of_le vA1 (Nat.le_of_lt vB1) (Nat.pos_of_ne_zero (by simp)))
  clear vA0 vB0 vA1 vB1
  have hobx : ∃ ob2, (N = 2 * h ∧ ob2 = 0) ∨ (¬ N = 2 * h ∧ ob2 = 0 + 2 * h) := by
    by_cases hc : N = 2 * h
    · exact ⟨_, .inl ⟨hc, rfl⟩⟩
    · exact ⟨_, .inr ⟨hc, rfl⟩⟩
  obtain ⟨ob2, hob2⟩ := hobx
  have hsl2 := fun wx gx => slice32_from wx gx 0 ob2 N N (2 * h) h2N hob2
  rw [show ((2 * h : Nat) : Int) = 2 * (h : Int) by omega] at hsl2
  have hdp2 : Hid (lh ≠ [] → ob2 = 2 * h) := by
    intro hne
    have : 0 < lh.length := List.length_pos_iff.2 hne
    omega
  clear hob2
  have hd0 : ll.length ≤ N := by omega
  have rdl9 : Rd w9 (some ⟨gl, 0, none⟩) ll := by have := rl9.rd 0 ll.length (by omega); rw [List.drop_zero, hll2] at this; exact this
  have rdh9 : Rd w9 (some ⟨gh, 0, none⟩) lh := by have := rh9.rd 0 lh.length (by omega); rw [List.drop_zero, hlh2] at this; exact this
  have hfitA : 0 + ll.length ≤ (List.replicate N 0).length := by simp; omega
  have hlenR : ((List.replicate N 0).take 0 ++ (ll ++ (List.replicate N 0).drop (0 + ll.length))).length = N := by simp; omega
  have hfitB : 2 * h + lh.length ≤ ((List.replicate N 0).take 0 ++ (ll ++ (List.replicate N 0).drop (0 + ll.length))).length := by rw [hlenR]; omega
  have hdpB : lh ≠ [] → (some ⟨w9.heap.size, ob2, none⟩ : Option Addr) = some ⟨w9.heap.size, 2 * h, none⟩ := fun hne => by rw [hdp2.out hne]
  have HlenR : Hid (((List.replicate N 0).take 0 ++ (ll ++ (List.replicate N 0).drop (0 + ll.length))).length = N) := hlenR
  have HdpB : Hid (lh ≠ [] → (some ⟨w9.heap.size, ob2, none⟩ : Option Addr) = some ⟨w9.heap.size, 2 * h, none⟩) := hdpB
  clear hlenR hdpB
  go_wp2_with (first | (at_make; refine wpList_make32 _ rfl _ _ rfl _ _ _ _ N rfl rfl rfl rfl hsz ?_; intro w10 hrow10 hk10 hsz10) | (with_reducible show wpList _ _ _ (Oper.mk (some 59) _ _ _ _ _ :: _) _ _; refine wpList_copy32 rfl _ _ rfl _ _ _ _ _ ll rfl rfl w9.heap.size 0 _ hrow10 hd0 (fun _ => rfl) (rdl9.keep hk10) hfitA ?_; intro w11 hrow11 hm11) | (with_reducible show wpList _ _ _ (Oper.mk _ (Op.call { callee := Callee.builtin Builtin.copy, args := _, argTypes := _ }) _ _ _ _ :: _) _ _; refine wpList_copy32 rfl _ _ rfl _ _ _ _ _ lh rfl rfl w9.heap.size (2 * h) _ hrow11 q_lh HdpB.out ((rdh9.keep hk10).mut hm11 (Off.of_lt rdh9 (Nat.le_refl _))) hfitB ?_; intro w12 hrow12 hm12))
  have ltm : gm < w9.heap.size := row9.lt
  have row12 := (((row9.keep hk10).mut hm11 (by omega)).mut hm12 (by omega))
  have rd12 : Rd w12 (some ⟨gm, 0, none⟩) q9 := by
    have := row12.rd 0 q9.length (by simp)
    rw [List.drop_zero, List.take_append_of_le_length (Nat.le_refl _), List.take_of_length_le (Nat.le_refl _)] at this
    exact this
  have T5 := trim_any (some ⟨gm, 0, none⟩) rm.length q9 w12 (by have := L9.out; omega) (by have := L9.out; omega) rd12
  rw [L9.out] at T5
  refine T5.mono ?_
  rintro e w13 ⟨rfl, rfl⟩
  clear T5
  have hl2 := sup_len ll lh N h q_ll q_lh h2N
  have hv2 := sup_val ll lh N h q_ll q_lh h2N
  have hm2 := sup_lim ll lh N h limll limlh
  generalize ((List.replicate N 0).take 0 ++ (ll ++ (List.replicate N 0).drop (0 + ll.length))).take (2 * h) ++ (lh ++ ((List.replicate N 0).take 0 ++ (ll ++ (List.replicate N 0).drop (0 + ll.length))).drop (2 * h + lh.length)) = R2 at hrow12 hl2 hv2 hm2
  have htot : val R2 + 4294967296 ^ h * val (q9.take (nl q9)) = val la * val lb := by
    rw [hv2, val_take_nl, HQ9.out, VLL.out, VLH.out, SA.out, SB.out, show 2 * h = h + h by omega, Nat.pow_add]
    grind
  have hlim : val la * val lb < 4294967296 ^ N := by
    rw [← HN.out, Nat.pow_add]
    exact Nat.mul_lt_mul_of_lt_of_le (val_lt hma) (Nat.le_of_lt (val_lt hmb)) (Nat.pos_of_ne_zero (by simp))
  have hq9 : (q9.take (nl q9)).length ≤ N - h := len_le_pow (Nrm_take q9) _ (by
    have h1 : 4294967296 ^ h * val (q9.take (nl q9)) < 4294967296 ^ h * 4294967296 ^ (N - h) := by
      rw [← Nat.pow_add, show h + (N - h) = N by omega]; omega
    exact Nat.lt_of_mul_lt_mul_left h1)
  have hnq := nl_le q9
  have hqe : (q9.take (nl q9)).length = nl q9 := by rw [List.length_take]; omega
  have hA := addAt_any w9.heap.size (some ⟨gm, 0, none⟩) rm.length h R2 (q9.take (nl q9)) w13 (by omega) hrow12 (rd12.take _) (by intro b' o' s' e' _; simp at e'; omega) hm2 (Lim_take lim9 _) (by omega) (by rw [htot, hl2]; exact hlim)
  rw [hqe, hl2] at hA
  have HT : Hid (val R2 + 4294967296 ^ h * val (q9.take (nl q9)) = val la * val lb) := htot
  clear htot hv2 hl2 hqe
  go_wp2_with fail
  refine hA.mono ?_
  rintro e w14 ⟨rfl, r', hr14, hl14, hm14, hv14, hmu14⟩
  clear hA
  have T6 := trim_any (some ⟨w9.heap.size, 0, none⟩) r'.length r' w14 (Nat.le_refl _) (by omega) hr14.rd0
  rw [hl14] at T6
  go_wp2_with fail
  refine T6.mono ?_
  rintro e w15 ⟨rfl, rfl⟩
  go_wp2_with fail
  go_ret
  have hk9 : Keep w w9 := (hk07.mut mut8 (Nat.le_trans hk06.le hgm)).mut mut9 (Nat.le_trans hk06.le hgm)
  refine ⟨_, rfl, ?_, (((hk9.trans hk10).mut hm11 hk9.le).mut hm12 hk9.le).mut hmu14 hk9.le⟩
  have h1 := NatS.of_row hr14 hk9.le hm14 (by omega)
  rw [hl14, hv14, HT.out] at h1
  exact h1
end Go.Proofs.YtbjidpooociamaaDoor
namespace Go.Proofs.YtbjidpooociamaaDoor
open Go.RowKit Lb
set_option maxRecDepth 100000 in
set_option maxHeartbeats 1600000 in
theorem product_step (M : Nat) (ih : ∀ m, m < M → ProductSaid m) : ProductSaid M := by
  intro a b ca cb la lb w hMa hMb hca hcb hla hlb hra hrb hma hmb
  by_cases hlt : la.length < lb.length
  · have dlt : decide ((la.length : Int) < (lb.length : Int)) = true := by simp; omega
    by_cases h40 : la.length ≤ 40
    · have hb := byLimbs_any b a cb ca lb la w hlb hla hrb hra hmb hma
      go_enter Tryd.func79, Tryd.ntmps79
      go_wp2_with fail
      refine hb.mono ?_
      rintro e w1 ⟨v, rfl, hn, hk⟩
      obtain ⟨gx, rx, lx, rfl, hx⟩ := hn
      go_wp2_with fail
      go_ret
      exact ⟨_, rfl, by rw [Nat.mul_comm]; exact ⟨gx, rx, lx, rfl, hx⟩, hk⟩
    · have d40 : decide (la.length ≤ 40) = false := by simp; omega
      obtain ⟨bX, oX, rfl, -⟩ := hrb 0 (by omega)
      obtain ⟨bY, oY, rfl, -⟩ := hra 0 (by omega)
      by_cases h2 : 2 * la.length ≤ lb.length
      · have hb := byPieces_any la.length (ih la.length (by omega)) bX oX (some ⟨bY, oY, none⟩) cb ca lb la w (Nat.le_refl _) hcb hca hlb hla (by omega) hrb hra hmb hma
        go_enter Tryd.func79, Tryd.ntmps79
        go_wp2_with fail
        refine hb.mono ?_
        rintro e w1 ⟨v, rfl, hn, hk⟩
        obtain ⟨gx, rx, lx, rfl, hx⟩ := hn
        go_wp2_with fail
        go_ret
        exact ⟨_, rfl, by rw [Nat.mul_comm]; exact ⟨gx, rx, lx, rfl, hx⟩, hk⟩
      · have d2 : decide (2 * (la.length : Int) ≤ (lb.length : Int)) = false := by simp; omega
        have hb := byHalves_any ((lb.length + 1) / 2 + 1) (ih _ (by omega)) bX oX bY oY ((lb.length + 1) / 2) cb ca lb la w rfl (Nat.le_refl _) hcb hca hlb (by omega) (by omega) (by omega) hrb hra hmb hma
        go_enter Tryd.func79, Tryd.ntmps79
        go_wp2_with fail
        refine hb.mono ?_
        rintro e w1 ⟨v, rfl, hn, hk⟩
        obtain ⟨gx, rx, lx, rfl, hx⟩ := hn
        go_wp2_with fail
        go_ret
        exact ⟨_, rfl, by rw [Nat.mul_comm]; exact ⟨gx, rx, lx, rfl, hx⟩, hk⟩
  · have dlt : decide ((la.length : Int) < (lb.length : Int)) = false := by simp; omega
    by_cases h40 : lb.length ≤ 40
    · have hb := byLimbs_any a b ca cb la lb w hla hlb hra hrb hma hmb
      go_enter Tryd.func79, Tryd.ntmps79
      go_wp2_with fail
      refine hb.mono ?_
      rintro e w1 ⟨v, rfl, hn, hk⟩
      obtain ⟨gx, rx, lx, rfl, hx⟩ := hn
      go_wp2_with fail
      go_ret
      exact ⟨_, rfl, ⟨gx, rx, lx, rfl, hx⟩, hk⟩
    · have d40 : decide (lb.length ≤ 40) = false := by simp; omega
      obtain ⟨bX, oX, rfl, -⟩ := hra 0 (by omega)
      obtain ⟨bY, oY, rfl, -⟩ := hrb 0 (by omega)
      by_cases h2 : 2 * lb.length ≤ la.length
      · have hb := byPieces_any lb.length (ih lb.length (by omega)) bX oX (some ⟨bY, oY, none⟩) ca cb la lb w (Nat.le_refl _) hca hcb hla hlb (by omega) hra hrb hma hmb
        go_enter Tryd.func79, Tryd.ntmps79
        go_wp2_with fail
        refine hb.mono ?_
        rintro e w1 ⟨v, rfl, hn, hk⟩
        obtain ⟨gx, rx, lx, rfl, hx⟩ := hn
        go_wp2_with fail
        go_ret
        exact ⟨_, rfl, ⟨gx, rx, lx, rfl, hx⟩, hk⟩
      · have d2 : decide (2 * (lb.length : Int) ≤ (la.length : Int)) = false := by simp; omega
        have hb := byHalves_any ((la.length + 1) / 2 + 1) (ih _ (by omega)) bX oX bY oY ((la.length + 1) / 2) ca cb la lb w rfl (Nat.le_refl _) hca hcb hla (by omega) (by omega) (by omega) hra hrb hma hmb
        go_enter Tryd.func79, Tryd.ntmps79
        go_wp2_with fail
        refine hb.mono ?_
        rintro e w1 ⟨v, rfl, hn, hk⟩
        obtain ⟨gx, rx, lx, rfl, hx⟩ := hn
        go_wp2_with fail
        go_ret
        exact ⟨_, rfl, ⟨gx, rx, lx, rfl, hx⟩, hk⟩

theorem product_all (M : Nat) : ProductSaid M := Nat.strongRecOn M (fun n ih => product_step n ih)
theorem product_any (a b : Option Addr) (ca cb : Nat) (la lb : List Nat) (w : World) (hca : la.length ≤ ca) (hcb : lb.length ≤ cb) (hla : la.length ≤ 35184372088832) (hlb : lb.length ≤ 35184372088832) (hra : Rd w a la) (hrb : Rd w b lb) (hma : Lim la) (hmb : Lim lb) :
    Calls Tryd.prog 79 #[.slice a la.length ca, .slice b lb.length cb] w fun e w' => ∃ v, e = .returned v ∧ NatS w.heap.size w' v (val la * val lb) ∧ Keep w w' :=
  product_all (max la.length lb.length) a b ca cb la lb w (by omega) (by omega) hca hcb hla hlb hra hrb hma hmb
set_option maxRecDepth 100000 in
set_option maxHeartbeats 400000 in
theorem Mul_any (a b : Option Addr) (ca cb : Nat) (la lb : List Nat) (w : World) (hca : la.length ≤ ca) (hcb : lb.length ≤ cb) (hla : la.length ≤ 35184372088832) (hlb : lb.length ≤ 35184372088832) (hra : Rd w a la) (hrb : Rd w b lb) (hma : Lim la) (hmb : Lim lb) :
    Calls Tryd.prog 35 #[.slice a la.length ca, .slice b lb.length cb] w fun e w' => ∃ v, e = .returned v ∧ NatS w.heap.size w' v (val la * val lb) ∧ Keep w w' := by
  have h1 := nl_le la
  have h2 := nl_le lb
  have e1 : (la.take (nl la)).length = nl la := by simp; omega
  have e2 : (lb.take (nl lb)).length = nl lb := by simp; omega
  have hc := product_any a b ca cb (la.take (nl la)) (lb.take (nl lb)) w (by omega) (by omega) (by omega) (by omega) (hra.take _) (hrb.take _) (Lim_take hma _) (Lim_take hmb _)
  rw [e1, e2, val_take_nl, val_take_nl] at hc
  have t1 := trim_any a ca la w hca (by omega) hra
  have t2 := trim_any b cb lb w hcb (by omega) hrb
  go_enter Tryd.func35, Tryd.ntmps35
  go_wp2_with fail
  refine t1.mono ?_
  rintro e w' ⟨rfl, rfl⟩
  go_wp2_with fail
  refine t2.mono ?_
  rintro e w' ⟨rfl, rfl⟩
  go_wp2_with fail
  refine hc.mono ?_
  rintro e w1 ⟨v, rfl, hn, hk⟩
  obtain ⟨gx, rx, lx, rfl, hx⟩ := hn
  go_wp2
  go_ret
  exact ⟨_, rfl, ⟨gx, rx, lx, rfl, hx⟩, hk⟩
end Go.Proofs.YtbjidpooociamaaDoor
namespace Go.Proofs.YtbjidpooociamaaDoor
open Go.RowKit Lb
set_option maxRecDepth 100000 in
set_option maxHeartbeats 400000 in
theorem rSub_any (a b : Option Addr) (ca cb : Nat) (la lb : List Nat) (w : World) (hca : la.length ≤ ca) (hcb : lb.length ≤ cb) (hla : la.length ≤ 35184372088000) (hlb : lb.length ≤ 35184372088000) (hra : Rd w a la) (hrb : Rd w b lb) (hma : Lim la) (hmb : Lim lb) :
    Calls Tryd.prog 32 #[.slice a la.length ca, .slice b lb.length cb] w fun e w' => (val la < val lb ∧ e = .returned (.tuple #[.slice none 0 0, .int .i64 12]) ∨ val lb ≤ val la ∧ ∃ v l, e = .returned (.tuple #[v, .int .i64 0]) ∧ Own w.heap.size w' v l ∧ Lim l ∧ Nrm l ∧ val l = val la - val lb) ∧ Keep w w' := by
  have hC := rCmp_any a b ca cb la lb w hca hcb hla hlb hra hrb
  have n1 := fun wx (hk : Keep w wx) => rNorm_any a ca la wx hca hla (hra.keep hk)
  have n2 := fun wx (hk : Keep w wx) => rNorm_any b cb lb wx hcb hlb (hrb.keep hk)
  have h1 := nl_le la
  have h2 := nl_le lb
  have hb1 : (la.take (nl la)).length ≤ 35184372088000 := by simp; omega
  have hb2 : (lb.take (nl lb)).length ≤ 35184372088000 := by simp; omega
  have v1 := val_take_nl la
  have v2 := val_take_nl lb
  have m1 := Lim_take hma (nl la)
  have m2 := Lim_take hmb (nl lb)
  have p1 := Nrm_take la
  have p2 := Nrm_take lb
  generalize la.take (nl la) = x at *
  generalize lb.take (nl lb) = y at *
  clear h1 h2
  by_cases hlt : val la < val lb
  · rw [cmpL_lt m1 m2 p1 p2 (by omega)] at hC
    clear v1 v2
    go_enter Tryd.func32, Tryd.ntmps32
    go_wp2_with fail
    refine hC.mono ?_
    rintro e w1 ⟨rfl, hk⟩
    go_wp2
    go_ret2
    exact ⟨.inl ⟨hlt, rfl⟩, hk⟩
  · have hcm := cmpL_ge m1 m2 p1 p2 (by omega)
    generalize cmpL x y = z at hcm hC
    have hz : decide (z < 0) = false := by simp; omega
    have hyx : y.length ≤ x.length := len_le_of_val p2 m1 (by omega)
    have V1 : Hid (val x = val la) := v1
    have V2 : Hid (val y = val lb) := v2
    clear v1 v2
    go_enter Tryd.func32, Tryd.ntmps32
    go_wp2_with fail
    refine hC.mono ?_
    rintro e w1 ⟨rfl, hk1⟩
    go_wp2_with fail
    refine (n1 w1 hk1).mono ?_
    rintro e w2 ⟨v, rfl, hown1, hk2⟩
    obtain ⟨a1, c1, rfl, hc1, hr1⟩ := hown1.shape
    have hk02 := hk1.trans hk2
    go_wp2_with fail
    refine (n2 w2 hk02).mono ?_
    rintro e w3 ⟨v, rfl, hown2, hk3⟩
    obtain ⟨a2, c2, rfl, hc2, hr2⟩ := hown2.shape
    have hk03 := hk02.trans hk3
    have hr1 := hr1.keep hk3
    clear hown1 hown2 n1 n2 hC
    go_wp2_with fail
    go_loopw [8, 9, 22] (fun v c i wr => ∃ (k t : Nat) (q : List Nat), k ≤ x.length ∧ t ≤ 1 ∧ i = .int .i64 k ∧ c = .int .i64 (t : Nat) ∧ Own w3.heap.size wr v q ∧ Hid (q.length = k) ∧ Lim q ∧ Hid (val q + val (y.take k) = val (x.take k) + t * 4294967296 ^ k) ∧ Keep w3 wr) (fun _ _ i _ => x.length - (intOf i).toNat)
    case atStart => exact ⟨0, 0, [], by omega, by omega, rfl, rfl, World.ownsRow_nil _ _ _ _, rfl, by intro x hx; simp at hx, by show _ = _; simp [val], Keep.refl _⟩
    case round =>
      obtain ⟨k, t, q, hk, ht, rfl, rfl, hown, hql, hmq, hv, hkp⟩ := hrel
      have hql' : q.length < 35184372088832 := by rw [hql.out]; omega
      obtain ⟨vs, cq, rfl, hcq, hrq⟩ := hown.shape
      have Hrq : Hid (Rd wr vs q) := hrq
      by_cases hkl : k < x.length
      · obtain ⟨b1, o1, rfl, hx1⟩ := (hr1.keep hkp) k hkl
        obtain ⟨u, hu⟩ : ∃ u, x.getD k 0 = u := ⟨_, rfl⟩
        obtain ⟨v, hv0⟩ : ∃ v, y.getD k 0 = v := ⟨_, rfl⟩
        have hul : u < 4294967296 := hu ▸ Lim_getD m1 _
        have hvl : v < 4294967296 := hv0 ▸ Lim_getD m2 _
        rw [hu] at hx1
        have HS : Hid (∀ z c, z + v + t = u + c * 4294967296 → val (q ++ [z]) + val (y.take (k + 1)) = val (x.take (k + 1)) + c * 4294967296 ^ (k + 1)) := by
          intro z c he
          rw [val_snoc, hql.out, val_take_succ y, val_take_succ x, hu, hv0, Nat.pow_succ]
          exact subStep _ _ _ _ _ _ _ _ _ he hv.out
        have Hql : Hid (∀ n, (q ++ [n]).length = k + 1) := by intro n; have := hql.out; simp; omega
        clear hrq hu
        by_cases hB : k < y.length
        · obtain ⟨b2, o2, rfl, hx2⟩ := (hr2.keep hkp) k hB
          rw [hv0] at hx2
          clear hv0
          by_cases hd : t + v ≤ u
          · have hd' : decide ((u : Int) - (t : Int) - (v : Int) < 0) = false := by simp; omega
            go_wp2_with (at_builtin; refine wpList_app32 rfl _ _ rfl q _ rfl _ (u - t - v) ?_ rfl hown hkp hql' ?_; rotate_left; intro v' w1' hown' hk')
            go_roundw
            case rel => exact ⟨k + 1, 0, q ++ [u - t - v], by omega, by omega, by go_num, rfl, hown', Hql.out _, Lim_snoc hmq _ (by omega), HS.out _ _ (by omega), hk'⟩
            case measure => simp [intOf]; omega
            all_goals (first | omega | rfl)
          · have hd' : (u : Int) - (t : Int) - (v : Int) < 0 := by omega
            go_wp2_with (at_builtin; refine wpList_app32 rfl _ _ rfl q _ rfl _ (u + 4294967296 - t - v) ?_ rfl hown hkp hql' ?_; rotate_left; intro v' w1' hown' hk')
            go_roundw
            case rel => exact ⟨k + 1, 1, q ++ [u + 4294967296 - t - v], by omega, by omega, by go_num, rfl, hown', Hql.out _, Lim_snoc hmq _ (by omega), HS.out _ _ (by omega), hk'⟩
            case measure => simp [intOf]; omega
            all_goals (first | omega | rfl)
        · have hBf : decide ((k : Int) < (y.length : Int)) = false := by simp; omega
          have hv1 : v = 0 := by rw [← hv0]; exact getD_past y k hB
          clear hv0
          by_cases hd : t ≤ u
          · have hd' : decide ((u : Int) - (t : Int) < 0) = false := by simp; omega
            go_wp2_with (at_builtin; refine wpList_app32 rfl _ _ rfl q _ rfl _ (u - t) ?_ rfl hown hkp hql' ?_; rotate_left; intro v' w1' hown' hk')
            go_roundw
            case rel => exact ⟨k + 1, 0, q ++ [u - t], by omega, by omega, by go_num, rfl, hown', Hql.out _, Lim_snoc hmq _ (by omega), HS.out _ _ (by omega), hk'⟩
            case measure => simp [intOf]; omega
            all_goals (first | omega | rfl)
          · have hd' : (u : Int) - (t : Int) < 0 := by omega
            go_wp2_with (at_builtin; refine wpList_app32 rfl _ _ rfl q _ rfl _ (u + 4294967296 - t) ?_ rfl hown hkp hql' ?_; rotate_left; intro v' w1' hown' hk')
            go_roundw
            case rel => exact ⟨k + 1, 1, q ++ [u + 4294967296 - t], by omega, by omega, by go_num, rfl, hown', Hql.out _, Lim_snoc hmq _ (by omega), HS.out _ _ (by omega), hk'⟩
            case measure => simp [intOf]; omega
            all_goals (first | omega | rfl)
      · have hke : k = x.length := by omega
        have h0 := hv.out
        rw [hke, List.take_of_length_le hyx, List.take_of_length_le (Nat.le_refl _)] at h0
        have hq := val_lt hmq
        rw [hql.out, hke] at hq
        have ht0 : t = 0 := by
          rcases Nat.eq_zero_or_pos t with h | h
          · exact h
          · exfalso
            have h3 : 4294967296 ^ x.length ≤ t * 4294967296 ^ x.length := Nat.le_mul_of_pos_left _ h
            have := V1.out
            have := V2.out
            omega
        have HF : Hid (val q = val la - val lb) := by
          show _ = _
          have e1 := V1.out
          have e2 := V2.out
          rw [ht0] at h0
          omega
        have hN := rNorm_any vs cq q wr hcq (by have := hql.out; omega) Hrq
        clear h0 hq ht0 hrq
        go_wp2_with fail
        refine hN.mono ?_
        rintro e w5 ⟨v5, rfl, ho5, hk5⟩
        go_wp2_with fail
        go_ret2
        exact ⟨.inr ⟨by omega, _, _, rfl, ho5.mono (Nat.le_trans hk03.le hkp.le), Lim_take hmq _, Nrm_take _, by rw [val_take_nl]; exact HF.out⟩, (hk03.trans hkp).trans hk5⟩
set_option maxRecDepth 100000 in
set_option maxHeartbeats 400000 in
theorem rMul_any (a b : Option Addr) (ca cb : Nat) (la lb : List Nat) (w : World) (hla : la.length ≤ 35184372088000) (hlb : lb.length ≤ 35184372088000) (hsum : la.length + lb.length ≤ 35184372088830) (hra : Rd w a la) (hrb : Rd w b lb) (hma : Lim la) (hmb : Lim lb) :
    Calls Tryd.prog 36 #[.slice a la.length ca, .slice b lb.length cb] w fun e w' => ∃ v l, e = .returned v ∧ Own w.heap.size w' v l ∧ Lim l ∧ Nrm l ∧ val l = val la * val lb ∧ Keep w w' := by
  obtain ⟨N, hN⟩ : ∃ N, la.length + lb.length + 1 = N := ⟨_, rfl⟩
  have hsz : N ≤ 70368744177664 := by omega
  have hsz2 : N ≤ 35184372088831 := by omega
  have hNi : (la.length : Int) + (lb.length : Int) + 1 = (N : Int) := by omega
  have HN : Hid (la.length + lb.length + 1 = N) := hN
  clear hN
  go_enter Tryd.func36, Tryd.ntmps36
  go_wp2_with (at_make; refine wpList_make32 _ rfl _ _ rfl _ _ _ _ N rfl rfl rfl rfl hsz ?_; intro w1 hrow hk hsz1)
  clear hNi
  go_loopw [20] (fun i wr => ∃ (k : Nat) (rk : List Nat), k ≤ la.length ∧ i = .int .i64 k ∧ Row wr w.heap.size rk ∧ Hid (rk.length = N) ∧ Lim rk ∧ Hid (val rk = val (la.take k) * val lb) ∧ Keep w wr) (fun i _ => la.length - (intOf i).toNat)
  case atStart => exact ⟨0, _, by omega, rfl, hrow, by show _ = _; simp, by intro x hx; simp at hx; omega, by show _ = _; rw [val_rep]; simp [val], hk⟩
  case round =>
    obtain ⟨k, rk, hkk, rfl, hrk, hlen, hmk, hv, hkp⟩ := hrel
    by_cases hkl : k < la.length
    · obtain ⟨b1, o1, rfl, hx1⟩ := (hra.keep hkp) k hkl
      obtain ⟨x, hx⟩ : ∃ x, la.getD k 0 = x := ⟨_, rfl⟩
      have hxl : x < 4294967296 := hx ▸ Lim_getD hma _
      rw [hx] at hx1
      have Hx : Hid (la.getD k 0 = x) := hx
      clear hx
      have hbig : Hid (val rk + 4294967296 ^ k * (x * val lb) < 4294967296 ^ (N - 1)) := by
        show _ < _
        have h1 : val rk + 4294967296 ^ k * (x * val lb) = val (la.take (k + 1)) * val lb := by
          rw [hv.out, val_take_succ, Hx.out]; grind
        rw [h1, show N - 1 = la.length + lb.length by (have := HN.out; omega), Nat.pow_add]
        have h2 := val_lt (Lim_take hma (k + 1))
        have h3 : 4294967296 ^ (la.take (k + 1)).length ≤ 4294967296 ^ la.length := Nat.pow_le_pow_right (by omega) (by rw [List.length_take]; omega)
        exact Nat.mul_lt_mul_of_lt_of_le (by omega) (Nat.le_of_lt (val_lt hmb)) (Nat.pos_of_ne_zero (by simp))
      have hNN : la.length + lb.length + 1 ≤ N := by have := HN.out; omega
      go_wp2_with fail
      go_loopw [8, 9] (fun c j wj => ∃ (jn cn : Nat) (rj : List Nat), jn ≤ N ∧ cn < 4294967296 ∧ j = .int .i64 jn ∧ c = .int .u64 cn ∧ Row wj w.heap.size rj ∧ Hid (rj.length = N) ∧ Lim rj ∧ Hid (val rj + cn * 4294967296 ^ (k + jn) = val rk + 4294967296 ^ k * (x * val (lb.take jn))) ∧ Keep w wj) (fun _ j _ => N - (intOf j).toNat)
      case atStart => exact ⟨0, 0, rk, by omega, by omega, rfl, rfl, hrk, hlen, hmk, by show _ = _; simp [val], hkp⟩
      case round =>
        obtain ⟨jn, cn, rj, hjn, hcn, rfl, rfl, hrj, hlj, hmj, hvj, hkj⟩ := hrel
        clear hx1 hrk hkp
        by_cases hB : jn < lb.length
        · obtain ⟨b2, o2, rfl, hy1⟩ := (hrb.keep hkj) jn hB
          obtain ⟨v, hv0⟩ : ∃ v, lb.getD jn 0 = v := ⟨_, rfl⟩
          have hvl : v < 4294967296 := hv0 ▸ Lim_getD hmb _
          rw [hv0] at hy1
          have Hv : Hid (lb.getD jn 0 = v) := hv0; clear hv0
          have hp := prodB x v hxl hvl
          have hpi : (x : Int) * (v : Int) ≤ 18446744065119617025 := by rw [← Int.natCast_mul]; omega
          have hpi0 : 0 ≤ (x : Int) * (v : Int) := by rw [← Int.natCast_mul]; omega
          have hc2 := hrj.cell (k + jn) (by rw [hlj.out]; omega)
          have hfz := hrj.frozen (k + jn)
          obtain ⟨u, hu⟩ : ∃ u, rj.getD (k + jn) 0 = u := ⟨_, rfl⟩
          have hul : u < 4294967296 := hu ▸ Lim_getD hmj _
          rw [hu] at hc2
          have Hu : Hid (rj.getD (k + jn) 0 = u) := hu; clear hu
          have hand : bits BinOp.and IntKind.u64 ((cn : Int) + (u : Int) + (x : Int) * (v : Int)) 4294967295 = ((((cn + u + x * v) % 4294967296 : Nat)) : Int) := by have := and64 (cn + u + x * v) (by omega); simpa using this
          have hlt64 : cn + u + x * v < 18446744073709551616 := by omega
          have HN2 : Hid (cn + u + x * v = cn + (u + x * v)) := by show _ = _; omega
          go_wp2_with fail
          go_roundw
          case rel =>
            refine ⟨jn + 1, (cn + u + x * v) / 4294967296, rj.set (k + jn) ((cn + u + x * v) % 4294967296), by omega, by omega, by go_num, by simp, ?_, ?_, Lim_set hmj _ _ (by omega), ?_, hkj.setCell (Nat.le_refl _) _⟩
            · have h1 := hrj.set (k + jn) ((cn + u + x * v) % 4294967296); simpa using h1
            · show _ = _
              rw [List.length_set]; exact hlj.out
            · show _ = _
              have h1 := addStep rj (k + jn) cn u (x * v) _ (by rw [hlj.out]; omega) Hu.out hvj.out
              rw [HN2.out, show k + (jn + 1) = k + jn + 1 from rfl, h1, val_take_succ lb, Hv.out, Nat.pow_add]
              grind
          case measure => simp [intOf]; omega
        · have hBf : decide ((jn : Int) < (lb.length : Int)) = false := by simp; omega
          have HvZ : Hid (lb.getD jn 0 = 0) := getD_past lb jn hB
          by_cases hT : 0 < cn
          · have hkj2 : k + jn < N - 1 := by
              rcases Nat.lt_or_ge (k + jn) (N - 1) with h | h
              · exact h
              · exfalso
                have h0 := hvj.out
                rw [List.take_of_length_le (by omega)] at h0
                have h1 : 4294967296 ^ (N - 1) ≤ 4294967296 ^ (k + jn) := Nat.pow_le_pow_right (by omega) h
                have h2 : 4294967296 ^ (k + jn) ≤ cn * 4294967296 ^ (k + jn) := Nat.le_mul_of_pos_left _ hT
                have h3 : val rk + 4294967296 ^ k * (x * val lb) < 4294967296 ^ (N - 1) := hbig
                omega
            have hc2 := hrj.cell (k + jn) (by rw [hlj.out]; omega)
            have hfz := hrj.frozen (k + jn)
            obtain ⟨u, hu⟩ : ∃ u, rj.getD (k + jn) 0 = u := ⟨_, rfl⟩
            have hul : u < 4294967296 := hu ▸ Lim_getD hmj _
            rw [hu] at hc2
            have Hu : Hid (rj.getD (k + jn) 0 = u) := hu; clear hu
            have hand : bits BinOp.and IntKind.u64 ((cn : Int) + (u : Int)) 4294967295 = ((((cn + u) % 4294967296 : Nat)) : Int) := by have := and64 (cn + u) (by omega); simpa using this
            have hlt64 : cn + u < 18446744073709551616 := by omega
            have HN2 : Hid (cn + u = cn + (u + 0)) := by show _ = _; omega
            go_wp2_with fail
            go_roundw
            case rel =>
              refine ⟨jn + 1, (cn + u) / 4294967296, rj.set (k + jn) ((cn + u) % 4294967296), by omega, by omega, by go_num, by simp, ?_, ?_, Lim_set hmj _ _ (by omega), ?_, hkj.setCell (Nat.le_refl _) _⟩
              · have h1 := hrj.set (k + jn) ((cn + u) % 4294967296); simpa using h1
              · show _ = _
                rw [List.length_set]; exact hlj.out
              · show _ = _
                have h1 := addStep rj (k + jn) cn u (0) _ (by rw [hlj.out]; omega) Hu.out hvj.out
                rw [HN2.out, show k + (jn + 1) = k + jn + 1 from rfl, h1, val_take_succ lb, HvZ.out, Nat.pow_add]
                grind
            case measure => simp [intOf]; omega
          · have hTf : decide (0 < (cn : Int)) = false := by simp; omega
            have HF : Hid (val rj = val (la.take (k + 1)) * val lb) := by
              show _ = _
              have h0 := hvj.out
              rw [List.take_of_length_le (by omega), show cn = 0 by omega, hv.out] at h0
              rw [val_take_succ, Hx.out]
              grind
            go_wp2_with fail
            go_roundw
            case rel => exact ⟨k + 1, rj, by omega, by go_num, hrj, hlj, hmj, HF, hkj⟩
            case measure => simp [intOf]; omega
    · have hke : k = la.length := by omega
      have hN := rNorm_wide (some ⟨w.heap.size, 0, none⟩) N rk wr (by have := hlen.out; omega) (by have := hlen.out; omega) hrk.rd0
      rw [hlen.out] at hN
      have HF : Hid (val rk = val la * val lb) := by
        show _ = _
        rw [hv.out, List.take_of_length_le (by omega)]
      go_wp2_with fail
      refine hN.mono ?_
      rintro e w5 ⟨v5, rfl, ho5, hk5⟩
      go_wp2_with fail
      go_ret
      exact ⟨_, _, rfl, ho5.mono hkp.le, Lim_take hmk _, Nrm_take _, by rw [val_take_nl]; exact HF.out, hkp.trans hk5⟩
end Go.Proofs.YtbjidpooociamaaDoor
