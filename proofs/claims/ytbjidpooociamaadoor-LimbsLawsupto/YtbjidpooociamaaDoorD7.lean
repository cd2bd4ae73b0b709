import Derived.Test.YtbjidpooociamaaDoorD6
namespace Go.Proofs.YtbjidpooociamaaDoor
open Go.RowKit Lb
set_option maxRecDepth 100000 in
set_option maxHeartbeats 400000 in
theorem rSub_any (a b : Option Addr) (ca cb : Nat) (la lb : List Nat) (w : World) (hca : la.length ≤ ca) (hcb : lb.length ≤ cb) (hla : la.length ≤ 35184372087808) (hlb : lb.length ≤ 35184372087808) (hra : Rd w a la) (hrb : Rd w b lb) (hma : Lim la) (hmb : Lim lb) :
    Calls Tryd.prog 32 #[.slice a la.length ca, .slice b lb.length cb] w fun e w' => (val la < val lb ∧ e = .returned (.tuple #[.slice none 0 0, .int .i64 12]) ∨ val lb ≤ val la ∧ ∃ v l, e = .returned (.tuple #[v, .int .i64 0]) ∧ Own w.heap.size w' v l ∧ Lim l ∧ Nrm l ∧ val l = val la - val lb) ∧ Keep w w' := by
  have hC := rCmp_any a b ca cb la lb w hca hcb hla hlb hra hrb
  have n1 := fun wx (hk : Keep w wx) => rNorm_any a ca la wx hca hla (hra.keep hk)
  have n2 := fun wx (hk : Keep w wx) => rNorm_any b cb lb wx hcb hlb (hrb.keep hk)
  have h1 := nl_le la
  have h2 := nl_le lb
  have hb1 : (la.take (nl la)).length ≤ 35184372087808 := by simp; omega
  have hb2 : (lb.take (nl lb)).length ≤ 35184372087808 := by simp; omega
  have v1 := val_take_nl la
  have v2 := val_take_nl lb
  have m1 := Lim_take hma (nl la)
  have m2 := Lim_take hmb (nl lb)
  have p1 := Nrm_take la
  have p2 := Nrm_take lb
  generalize la.take (nl la) = x at *
  generalize lb.take (nl lb) = y at *
  clear h1 h2
  by_cases hlt : val la < val lb
  · rw [cmpL_lt m1 m2 p1 p2 (by omega)] at hC
    clear v1 v2
    go_enter Tryd.func32, Tryd.ntmps32
    go_wp2_with fail
    refine hC.mono ?_
    rintro e w1 ⟨rfl, hk⟩
    go_wp2
    go_ret2
    exact ⟨.inl ⟨hlt, rfl⟩, hk⟩
  · have hcm := cmpL_ge m1 m2 p1 p2 (by omega)
    generalize cmpL x y = z at hcm hC
    have hz : decide (z < 0) = false := by simp; omega
    have hyx : y.length ≤ x.length := len_le_of_val p2 m1 (by omega)
    have V1 : Hid (val x = val la) := v1
    have V2 : Hid (val y = val lb) := v2
    clear v1 v2
    go_enter Tryd.func32, Tryd.ntmps32
    go_wp2_with fail
    refine hC.mono ?_
    rintro e w1 ⟨rfl, hk1⟩
    go_wp2_with fail
    refine (n1 w1 hk1).mono ?_
    rintro e w2 ⟨v, rfl, hown1, hk2⟩
    obtain ⟨a1, c1, rfl, hc1, hr1⟩ := hown1.shape
    have hk02 := hk1.trans hk2
    go_wp2_with fail
    refine (n2 w2 hk02).mono ?_
    rintro e w3 ⟨v, rfl, hown2, hk3⟩
    obtain ⟨a2, c2, rfl, hc2, hr2⟩ := hown2.shape
    have hk03 := hk02.trans hk3
    have hr1 := hr1.keep hk3
    clear hown1 hown2 n1 n2 hC
    go_wp2_with fail
    go_loopw [8, 9, 22] (fun v c i wr => ∃ (k t : Nat) (q : List Nat), k ≤ x.length ∧ t ≤ 1 ∧ i = .int .i64 k ∧ c = .int .i64 (t : Nat) ∧ Own w3.heap.size wr v q ∧ Hid (q.length = k) ∧ Lim q ∧ Hid (val q + val (y.take k) = val (x.take k) + t * 4294967296 ^ k) ∧ Keep w3 wr) (fun _ _ i _ => x.length - (intOf i).toNat)
    case atStart => exact ⟨0, 0, [], by omega, by omega, rfl, rfl, World.ownsRow_nil _ _ _ _, rfl, by intro x hx; simp at hx, by show _ = _; simp [val], Keep.refl _⟩
    case round =>
      obtain ⟨k, t, q, hk, ht, rfl, rfl, hown, hql, hmq, hv, hkp⟩ := hrel
      have hql' : q.length < 35184372088832 := by rw [hql.out]; omega
      obtain ⟨vs, cq, rfl, hcq, hrq⟩ := hown.shape
      have Hrq : Hid (Rd wr vs q) := hrq
      by_cases hkl : k < x.length
      · obtain ⟨b1, o1, rfl, hx1⟩ := (hr1.keep hkp) k hkl
        obtain ⟨u, hu⟩ : ∃ u, x.getD k 0 = u := ⟨_, rfl⟩
        obtain ⟨v, hv0⟩ : ∃ v, y.getD k 0 = v := ⟨_, rfl⟩
        have hul : u < 4294967296 := hu ▸ Lim_getD m1 _
        have hvl : v < 4294967296 := hv0 ▸ Lim_getD m2 _
        rw [hu] at hx1
        have HS : Hid (∀ z c, z + v + t = u + c * 4294967296 → val (q ++ [z]) + val (y.take (k + 1)) = val (x.take (k + 1)) + c * 4294967296 ^ (k + 1)) := by
          intro z c he
          rw [val_snoc, hql.out, val_take_succ y, val_take_succ x, hu, hv0, Nat.pow_succ]
          exact subStep _ _ _ _ _ _ _ _ _ he hv.out
        have Hql : Hid (∀ n, (q ++ [n]).length = k + 1) := by intro n; have := hql.out; simp; omega
        clear hrq hu
        by_cases hB : k < y.length
        · obtain ⟨b2, o2, rfl, hx2⟩ := (hr2.keep hkp) k hB
          rw [hv0] at hx2
          clear hv0
          by_cases hd : t + v ≤ u
          · have hd' : decide ((u : Int) - (t : Int) - (v : Int) < 0) = false := by simp; omega
            go_wp2_with (at_builtin; refine wpList_app32 rfl _ _ rfl q _ rfl _ (u - t - v) ?_ rfl hown hkp hql' ?_; rotate_left; intro v' w1' hown' hk')
            go_roundw
            case rel => exact ⟨k + 1, 0, q ++ [u - t - v], by omega, by omega, by go_num, rfl, hown', Hql.out _, Lim_snoc hmq _ (by omega), HS.out _ _ (by omega), hk'⟩
            case measure => simp [intOf]; omega
            all_goals (first | omega | rfl)
          · have hd' : (u : Int) - (t : Int) - (v : Int) < 0 := by omega
            go_wp2_with (at_builtin; refine wpList_app32 rfl _ _ rfl q _ rfl _ (u + 4294967296 - t - v) ?_ rfl hown hkp hql' ?_; rotate_left; intro v' w1' hown' hk')
            go_roundw
            case rel => exact ⟨k + 1, 1, q ++ [u + 4294967296 - t - v], by omega, by omega, by go_num, rfl, hown', Hql.out _, Lim_snoc hmq _ (by omega), HS.out _ _ (by omega), hk'⟩
            case measure => simp [intOf]; omega
            all_goals (first | omega | rfl)
        · have hBf : decide ((k : Int) < (y.length : Int)) = false := by simp; omega
          have hv1 : v = 0 := by rw [← hv0]; exact getD_past y k hB
          clear hv0
          by_cases hd : t ≤ u
          · have hd' : decide ((u : Int) - (t : Int) < 0) = false := by simp; omega
            go_wp2_with (at_builtin; refine wpList_app32 rfl _ _ rfl q _ rfl _ (u - t) ?_ rfl hown hkp hql' ?_; rotate_left; intro v' w1' hown' hk')
            go_roundw
            case rel => exact ⟨k + 1, 0, q ++ [u - t], by omega, by omega, by go_num, rfl, hown', Hql.out _, Lim_snoc hmq _ (by omega), HS.out _ _ (by omega), hk'⟩
            case measure => simp [intOf]; omega
            all_goals (first | omega | rfl)
          · have hd' : (u : Int) - (t : Int) < 0 := by omega
            go_wp2_with (at_builtin; refine wpList_app32 rfl _ _ rfl q _ rfl _ (u + 4294967296 - t) ?_ rfl hown hkp hql' ?_; rotate_left; intro v' w1' hown' hk')
            go_roundw
            case rel => exact ⟨k + 1, 1, q ++ [u + 4294967296 - t], by omega, by omega, by go_num, rfl, hown', Hql.out _, Lim_snoc hmq _ (by omega), HS.out _ _ (by omega), hk'⟩
            case measure => simp [intOf]; omega
            all_goals (first | omega | rfl)
      · have hke : k = x.length := by omega
        have h0 := hv.out
        rw [hke, List.take_of_length_le hyx, List.take_of_length_le (Nat.le_refl _)] at h0
        have hq := val_lt hmq
        rw [hql.out, hke] at hq
        have ht0 : t = 0 := by
          rcases Nat.eq_zero_or_pos t with h | h
          · exact h
          · exfalso
            have h3 : 4294967296 ^ x.length ≤ t * 4294967296 ^ x.length := Nat.le_mul_of_pos_left _ h
            have := V1.out
            have := V2.out
            omega
        have HF : Hid (val q = val la - val lb) := by
          show _ = _
          have e1 := V1.out
          have e2 := V2.out
          rw [ht0] at h0
          omega
        have hN := rNorm_any vs cq q wr hcq (by have := hql.out; omega) Hrq
        clear h0 hq ht0 hrq
        go_wp2_with fail
        refine hN.mono ?_
        rintro e w5 ⟨v5, rfl, ho5, hk5⟩
        go_wp2_with fail
        go_ret2
        exact ⟨.inr ⟨by omega, _, _, rfl, ho5.mono (Nat.le_trans hk03.le hkp.le), Lim_take hmq _, Nrm_take _, by rw [val_take_nl]; exact HF.out⟩, (hk03.trans hkp).trans hk5⟩
set_option maxRecDepth 100000 in
set_option maxHeartbeats 400000 in
theorem rMul_any (a b : Option Addr) (ca cb : Nat) (la lb : List Nat) (w : World) (hla : la.length ≤ 35184372087808) (hlb : lb.length ≤ 35184372087808) (hsum : la.length + lb.length ≤ 35184372088830) (hra : Rd w a la) (hrb : Rd w b lb) (hma : Lim la) (hmb : Lim lb) :
    Calls Tryd.prog 36 #[.slice a la.length ca, .slice b lb.length cb] w fun e w' => ∃ v l, e = .returned v ∧ Own w.heap.size w' v l ∧ Lim l ∧ Nrm l ∧ val l = val la * val lb ∧ Keep w w' := by
  obtain ⟨N, hN⟩ : ∃ N, la.length + lb.length + 1 = N := ⟨_, rfl⟩
  have hsz : N ≤ 70368744177664 := by omega
  have hsz2 : N ≤ 35184372088831 := by omega
  have hNi : (la.length : Int) + (lb.length : Int) + 1 = (N : Int) := by omega
  have HN : Hid (la.length + lb.length + 1 = N) := hN
  clear hN
  go_enter Tryd.func36, Tryd.ntmps36
  go_wp2_with (at_make; refine wpList_make32 _ rfl _ _ rfl _ _ _ _ N rfl rfl rfl rfl hsz ?_; intro w1 hrow hk hsz1)
  clear hNi
  go_loopw [20] (fun i wr => ∃ (k : Nat) (rk : List Nat), k ≤ la.length ∧ i = .int .i64 k ∧ Row wr w.heap.size rk ∧ Hid (rk.length = N) ∧ Lim rk ∧ Hid (val rk = val (la.take k) * val lb) ∧ Keep w wr) (fun i _ => la.length - (intOf i).toNat)
  case atStart => exact ⟨0, _, by omega, rfl, hrow, by show _ = _; simp, by intro x hx; simp at hx; omega, by show _ = _; rw [val_rep]; simp [val], hk⟩
  case round =>
    obtain ⟨k, rk, hkk, rfl, hrk, hlen, hmk, hv, hkp⟩ := hrel
    by_cases hkl : k < la.length
    · obtain ⟨b1, o1, rfl, hx1⟩ := (hra.keep hkp) k hkl
      obtain ⟨x, hx⟩ : ∃ x, la.getD k 0 = x := ⟨_, rfl⟩
      have hxl : x < 4294967296 := hx ▸ Lim_getD hma _
      rw [hx] at hx1
      have Hx : Hid (la.getD k 0 = x) := hx
      clear hx
      have hbig : Hid (val rk + 4294967296 ^ k * (x * val lb) < 4294967296 ^ (N - 1)) := by
        show _ < _
        have h1 : val rk + 4294967296 ^ k * (x * val lb) = val (la.take (k + 1)) * val lb := by
          rw [hv.out, val_take_succ, Hx.out]; grind
        rw [h1, show N - 1 = la.length + lb.length by (have := HN.out; omega), Nat.pow_add]
        have h2 := val_lt (Lim_take hma (k + 1))
        have h3 : 4294967296 ^ (la.take (k + 1)).length ≤ 4294967296 ^ la.length := Nat.pow_le_pow_right (by omega) (by rw [List.length_take]; omega)
        exact Nat.mul_lt_mul_of_lt_of_le (by omega) (Nat.le_of_lt (val_lt hmb)) (Nat.pos_of_ne_zero (by simp))
      have hNN : la.length + lb.length + 1 ≤ N := by have := HN.out; omega
      go_wp2_with fail
      go_loopw [8, 9] (fun c j wj => ∃ (jn cn : Nat) (rj : List Nat), jn ≤ N ∧ cn < 4294967296 ∧ j = .int .i64 jn ∧ c = .int .u64 cn ∧ Row wj w.heap.size rj ∧ Hid (rj.length = N) ∧ Lim rj ∧ Hid (val rj + cn * 4294967296 ^ (k + jn) = val rk + 4294967296 ^ k * (x * val (lb.take jn))) ∧ Keep w wj) (fun _ j _ => N - (intOf j).toNat)
      case atStart => exact ⟨0, 0, rk, by omega, by omega, rfl, rfl, hrk, hlen, hmk, by show _ = _; simp [val], hkp⟩
      case round =>
        obtain ⟨jn, cn, rj, hjn, hcn, rfl, rfl, hrj, hlj, hmj, hvj, hkj⟩ := hrel
        clear hx1 hrk hkp
        by_cases hB : jn < lb.length
        · obtain ⟨b2, o2, rfl, hy1⟩ := (hrb.keep hkj) jn hB
          obtain ⟨v, hv0⟩ : ∃ v, lb.getD jn 0 = v := ⟨_, rfl⟩
          have hvl : v < 4294967296 := hv0 ▸ Lim_getD hmb _
          rw [hv0] at hy1
          have Hv : Hid (lb.getD jn 0 = v) := hv0; clear hv0
          have hp := prodB x v hxl hvl
          have hpi : (x : Int) * (v : Int) ≤ 18446744065119617025 := by rw [← Int.natCast_mul]; omega
          have hpi0 : 0 ≤ (x : Int) * (v : Int) := by rw [← Int.natCast_mul]; omega
          have hc2 := hrj.cell (k + jn) (by rw [hlj.out]; omega)
          have hfz := hrj.frozen (k + jn)
          obtain ⟨u, hu⟩ : ∃ u, rj.getD (k + jn) 0 = u := ⟨_, rfl⟩
          have hul : u < 4294967296 := hu ▸ Lim_getD hmj _
          rw [hu] at hc2
          have Hu : Hid (rj.getD (k + jn) 0 = u) := hu; clear hu
          have hand : bits BinOp.and IntKind.u64 ((cn : Int) + (u : Int) + (x : Int) * (v : Int)) 4294967295 = ((((cn + u + x * v) % 4294967296 : Nat)) : Int) := by have := and64 (cn + u + x * v) (by omega); simpa using this
          have hlt64 : cn + u + x * v < 18446744073709551616 := by omega
          have HN2 : Hid (cn + u + x * v = cn + (u + x * v)) := by show _ = _; omega
          go_wp2_with fail
          go_roundw
          case rel =>
            refine ⟨jn + 1, (cn + u + x * v) / 4294967296, rj.set (k + jn) ((cn + u + x * v) % 4294967296), by omega, by omega, by go_num, by simp, ?_, ?_, Lim_set hmj _ _ (by omega), ?_, hkj.setCell (Nat.le_refl _) _⟩
            · have h1 := hrj.set (k + jn) ((cn + u + x * v) % 4294967296); simpa using h1
            · show _ = _
              rw [List.length_set]; exact hlj.out
            · show _ = _
              have h1 := addStep rj (k + jn) cn u (x * v) _ (by rw [hlj.out]; omega) Hu.out hvj.out
              rw [HN2.out, show k + (jn + 1) = k + jn + 1 from rfl, h1, val_take_succ lb, Hv.out, Nat.pow_add]
              grind
          case measure => simp [intOf]; omega
        · have hBf : decide ((jn : Int) < (lb.length : Int)) = false := by simp; omega
          have HvZ : Hid (lb.getD jn 0 = 0) := getD_past lb jn hB
          by_cases hT : 0 < cn
          · have hkj2 : k + jn < N - 1 := by
              rcases Nat.lt_or_ge (k + jn) (N - 1) with h | h
              · exact h
              · exfalso
                have h0 := hvj.out
                rw [List.take_of_length_le (by omega)] at h0
                have h1 : 4294967296 ^ (N - 1) ≤ 4294967296 ^ (k + jn) := Nat.pow_le_pow_right (by omega) h
                have h2 : 4294967296 ^ (k + jn) ≤ cn * 4294967296 ^ (k + jn) := Nat.le_mul_of_pos_left _ hT
                have h3 : val rk + 4294967296 ^ k * (x * val lb) < 4294967296 ^ (N - 1) := hbig
                omega
            have hc2 := hrj.cell (k + jn) (by rw [hlj.out]; omega)
            have hfz := hrj.frozen (k + jn)
            obtain ⟨u, hu⟩ : ∃ u, rj.getD (k + jn) 0 = u := ⟨_, rfl⟩
            have hul : u < 4294967296 := hu ▸ Lim_getD hmj _
            rw [hu] at hc2
            have Hu : Hid (rj.getD (k + jn) 0 = u) := hu; clear hu
            have hand : bits BinOp.and IntKind.u64 ((cn : Int) + (u : Int)) 4294967295 = ((((cn + u) % 4294967296 : Nat)) : Int) := by have := and64 (cn + u) (by omega); simpa using this
            have hlt64 : cn + u < 18446744073709551616 := by omega
            have HN2 : Hid (cn + u = cn + (u + 0)) := by show _ = _; omega
            go_wp2_with fail
            go_roundw
            case rel =>
              refine ⟨jn + 1, (cn + u) / 4294967296, rj.set (k + jn) ((cn + u) % 4294967296), by omega, by omega, by go_num, by simp, ?_, ?_, Lim_set hmj _ _ (by omega), ?_, hkj.setCell (Nat.le_refl _) _⟩
              · have h1 := hrj.set (k + jn) ((cn + u) % 4294967296); simpa using h1
              · show _ = _
                rw [List.length_set]; exact hlj.out
              · show _ = _
                have h1 := addStep rj (k + jn) cn u (0) _ (by rw [hlj.out]; omega) Hu.out hvj.out
                rw [HN2.out, show k + (jn + 1) = k + jn + 1 from rfl, h1, val_take_succ lb, HvZ.out, Nat.pow_add]
                grind
            case measure => simp [intOf]; omega
          · have hTf : decide (0 < (cn : Int)) = false := by simp; omega
            have HF : Hid (val rj = val (la.take (k + 1)) * val lb) := by
              show _ = _
              have h0 := hvj.out
              rw [List.take_of_length_le (by omega), show cn = 0 by omega, hv.out] at h0
              rw [val_take_succ, Hx.out]
              grind
            go_wp2_with fail
            go_roundw
            case rel => exact ⟨k + 1, rj, by omega, by go_num, hrj, hlj, hmj, HF, hkj⟩
            case measure => simp [intOf]; omega
    · have hke : k = la.length := by omega
      have hN := rNorm_wide (some ⟨w.heap.size, 0, none⟩) N rk wr (by have := hlen.out; omega) (by have := hlen.out; omega) hrk.rd0
      rw [hlen.out] at hN
      have HF : Hid (val rk = val la * val lb) := by
        show _ = _
        rw [hv.out, List.take_of_length_le (by omega)]
      go_wp2_with fail
      refine hN.mono ?_
      rintro e w5 ⟨v5, rfl, ho5, hk5⟩
      go_wp2_with fail
      go_ret
      exact ⟨_, _, rfl, ho5.mono hkp.le, Lim_take hmk _, Nrm_take _, by rw [val_take_nl]; exact HF.out, hkp.trans hk5⟩
end Go.Proofs.YtbjidpooociamaaDoor
