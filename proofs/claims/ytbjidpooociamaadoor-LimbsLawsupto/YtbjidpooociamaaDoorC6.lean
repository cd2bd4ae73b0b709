import Derived.Test.YtbjidpooociamaaDoorC5
namespace Go.Proofs.YtbjidpooociamaaDoor
open Go.RowKit Lb
theorem val_drop_pred (r : List Nat) (k : Nat) (h0 : 0 < k) (h : k ≤ r.length) : val (r.drop (k - 1)) = r.getD (k - 1) 0 + 4294967296 * val (r.drop k) := by
  obtain ⟨j, rfl⟩ : ∃ j, k = j + 1 := ⟨k - 1, by omega⟩
  rw [Nat.add_sub_cancel, List.drop_eq_getElem_cons (by omega), val]
  simp [List.getD, show j < r.length by omega]
set_option maxRecDepth 100000 in
set_option maxHeartbeats 400000 in
theorem rSmall_any (a : Option Addr) (c : Nat) (l : List Nat) (w : World) (hnc : l.length ≤ c) (hl : l.length ≤ 35184372087808) (hr : Rd w a l) (hm : Lim l) :
    Calls Tryd.prog 14 #[.slice a l.length c] w fun e w' => e = .returned (.tuple #[.int .u64 (smallV l : Nat), .bool (smallB l)]) ∧ Keep w w' := by
  have h1 := nl_le l
  have e1 : (l.take (nl l)).length = nl l := by simp; omega
  have hmm := Lim_take hm (nl l)
  by_cases h2 : 2 < nl l
  · go_enter Tryd.func14, Tryd.ntmps14
    go_wp2_with fail
    refine (rNorm_any a c l w hnc hl hr).mono ?_
    rintro e w' ⟨v, rfl, hown, hk'⟩
    obtain ⟨a', c', rfl, hc', hr'⟩ := hown.shape
    rw [e1]
    go_wp2
    go_ret2
    exact ⟨by simp [smallV, smallB, show ¬ nl l ≤ 2 by omega], hk'⟩
  · have hd : decide (2 < (nl l : Int)) = false := by simp; omega
    go_enter Tryd.func14, Tryd.ntmps14
    go_wp2_with fail
    refine (rNorm_any a c l w hnc hl hr).mono ?_
    rintro e w' ⟨v, rfl, hown, hk'⟩
    obtain ⟨a', c', rfl, hc', hr'⟩ := hown.shape
    have ev : Hid (val (l.take (nl l)) = val l) := val_take_nl l
    rw [e1]
    clear hown
    generalize l.take (nl l) = r at *
    generalize hn : nl l = n at *
    have Hn : Hid (nl l = n) := hn
    clear hn
    have Hr : Hid (r.length = n) := e1
    have hn2 : n ≤ 2 := by omega
    clear e1
    go_wp2
    go_loop [5, 6] (fun v i => ∃ k : Nat, k ≤ n ∧ i = .int .i64 ((k : Int) - 1) ∧ v = .int .u64 (val (r.drop k) : Nat)) (fun _ i => (intOf i + 1).toNat)
    case atStart => exact ⟨n, Nat.le_refl _, rfl, by rw [List.drop_eq_nil_of_le (by rw [Hr.out]; exact Nat.le_refl _)]; rfl⟩
    case round =>
      obtain ⟨k, hk, rfl, rfl⟩ := hrel
      by_cases hk0 : 0 < k
      · obtain ⟨b, o, rfl, hc⟩ := hr' (k - 1) (by have := Hr.out; omega)
        obtain ⟨x, hx⟩ : ∃ x, r.getD (k - 1) 0 = x := ⟨_, rfl⟩
        have hxl : x < 4294967296 := hx ▸ Lim_getD hmm _
        obtain ⟨y, hy⟩ : ∃ y, val (r.drop k) = y := ⟨_, rfl⟩
        have hyl : y < 4294967296 := by
          rw [← hy]
          refine Nat.lt_of_lt_of_le (val_lt (Lim_drop hmm k)) ?_
          refine Nat.le_trans (Nat.pow_le_pow_right (by omega) (show (r.drop k).length ≤ 1 by have := Hr.out; simp; omega)) (by omega)
        have Hv : Hid (val (r.drop (k - 1)) = y * 4294967296 + x) := by
          show _ = _
          rw [val_drop_pred r k hk0 (by have := Hr.out; omega), hx, hy]; omega
        rw [hx] at hc
        rw [hy]
        clear hx hy
        have hor := or64' y x hyl hxl
        go_wp2
        go_round
        case rel => exact ⟨k - 1, by omega, by go_num, by rw [Hv.out]; simp⟩
        case measure => simp [intOf]; omega
      · go_wp2
        go_ret2
        have e0 : k = 0 := by omega
        subst e0
        exact ⟨by have := ev.out; simp [smallV, smallB, Hn.out, hn2, this], hk'⟩
set_option maxRecDepth 100000 in
set_option maxHeartbeats 400000 in
theorem rCmp_any (a b : Option Addr) (ca cb : Nat) (la lb : List Nat) (w : World) (hca : la.length ≤ ca) (hcb : lb.length ≤ cb) (hla : la.length ≤ 35184372087808) (hlb : lb.length ≤ 35184372087808) (hra : Rd w a la) (hrb : Rd w b lb) :
    Calls Tryd.prog 22 #[.slice a la.length ca, .slice b lb.length cb] w fun e w' => e = .returned (.int .i64 (cmpL (la.take (nl la)) (lb.take (nl lb)))) ∧ Keep w w' := by
  have h1 := nl_le la
  have h2 := nl_le lb
  have n1 := rNorm_any a ca la w hca hla hra
  have n2 := fun w1 (hk1 : Keep w w1) => rNorm_any b cb lb w1 hcb hlb (hrb.keep hk1)
  have hb1 : (la.take (nl la)).length ≤ 35184372087808 := by simp; omega
  have hb2 : (lb.take (nl lb)).length ≤ 35184372087808 := by simp; omega
  generalize la.take (nl la) = x at n1 hb1 ⊢
  generalize lb.take (nl lb) = y at n2 hb2 ⊢
  clear h1 h2
  go_enter Tryd.func22, Tryd.ntmps22
  go_wp2_with fail
  refine n1.mono ?_
  rintro e w1 ⟨v, rfl, hown1, hk1⟩
  obtain ⟨a1, c1, rfl, hc1, hr1⟩ := hown1.shape
  clear hown1
  go_wp2_with fail
  refine (n2 w1 hk1).mono ?_
  rintro e w2 ⟨v, rfl, hown2, hk2⟩
  obtain ⟨a2, c2, rfl, hc2, hr2⟩ := hown2.shape
  clear hown2 n1 n2
  have hr1 := hr1.keep hk2
  have hk := hk1.trans hk2
  by_cases hlt : x.length < y.length
  · have hne : ((x.length : Int) != (y.length : Int)) = true := by simp; omega
    go_wp2
    go_ret
    exact ⟨ret_int (by unfold cmpL; rw [if_pos hlt]), hk⟩
  by_cases hgt : y.length < x.length
  · have hne : ((x.length : Int) != (y.length : Int)) = true := by simp; omega
    go_wp2
    go_ret
    exact ⟨ret_int (by unfold cmpL; rw [if_neg hlt, if_pos hgt]), hk⟩
  have heq : ((x.length : Int) != (y.length : Int)) = false := by simp; omega
  have hc : Hid (cmpL x y = cmpTop x y x.length) := by show _ = _; unfold cmpL; rw [if_neg hlt, if_neg hgt]
  go_wp2
  go_loopw [7] (fun i wr => ∃ k : Nat, k ≤ x.length ∧ i = .int .i64 ((k : Int) - 1) ∧ Hid (cmpTop x y k = cmpTop x y x.length) ∧ Dr w2 wr) (fun i _ => (intOf i + 1).toNat)
  case atStart => exact ⟨x.length, Nat.le_refl _, rfl, rfl, Dr.refl _⟩
  case round =>
    obtain ⟨k, hk0, rfl, hrest, hd⟩ := hrel
    by_cases hkl : 0 < k
    · obtain ⟨b1, o1, rfl, hx1⟩ := hr1 (k - 1) (by omega)
      obtain ⟨b2, o2, rfl, hx2⟩ := hr2 (k - 1) (by omega)
      obtain ⟨p, hp⟩ : ∃ p, x.getD (k - 1) 0 = p := ⟨_, rfl⟩
      obtain ⟨q, hq⟩ : ∃ q, y.getD (k - 1) 0 = q := ⟨_, rfl⟩
      rw [hp, ← hd.cell] at hx1
      rw [hq, ← hd.cell] at hx2
      have Hp : Hid (x.getD (k - 1) 0 = p) := hp; clear hp
      have Hq : Hid (y.getD (k - 1) 0 = q) := hq; clear hq
      have hstep : Hid (cmpTop x y k = if p < q then -1 else if q < p then 1 else cmpTop x y (k - 1)) := by
        show _ = _
        obtain ⟨j, rfl⟩ : ∃ j, k = j + 1 := ⟨k - 1, by omega⟩
        rw [cmpTop]
        have h1 := Hp.out
        have h2 := Hq.out
        rw [Nat.add_sub_cancel] at h1 h2 ⊢
        rw [h1, h2]
      clear hr1 hr2
      rcases Nat.lt_trichotomy p q with hpq | hpq | hpq
      · go_wp2
        go_quiet (fail)
        go_wp2
        go_ret
        exact ⟨ret_int (by rw [hc.out, ← hrest.out, hstep.out, if_pos hpq]), hk.trans (hd.drewN _).keep⟩
      · subst hpq
        have hf : decide ((p : Int) < p) = false := by simp
        go_wp2
        go_quiet (fail)
        have hd1 : Dr w2 (wr.drewN nq) := hd.drewN nq
        have hx1' : (wr.drewN nq).cell? _ = _ := hx1
        have hx2' : (wr.drewN nq).cell? _ = _ := hx2
        clear hx1 hx2 hd
        generalize wr.drewN nq = w3 at hd1 hx1' hx2' ⊢
        go_wp2
        go_quiet (fail)
        go_wp2
        go_roundw
        case rel => exact ⟨k - 1, by omega, by go_num, by rw [← hrest.out, hstep.out, if_neg (by omega), if_neg (by omega)]; rfl, hd1.drewN _⟩
        case measure => simp [intOf]; omega
      · have hf : decide ((p : Int) < q) = false := by simp; omega
        go_wp2
        go_quiet (fail)
        have hd1 : Dr w2 (wr.drewN nq) := hd.drewN nq
        have hx1' : (wr.drewN nq).cell? _ = _ := hx1
        have hx2' : (wr.drewN nq).cell? _ = _ := hx2
        clear hx1 hx2 hd
        generalize wr.drewN nq = w3 at hd1 hx1' hx2' ⊢
        go_wp2
        go_quiet (fail)
        go_wp2
        go_ret
        exact ⟨ret_int (by rw [hc.out, ← hrest.out, hstep.out, if_neg (by omega), if_pos hpq]), hk.trans (hd1.drewN _).keep⟩
    · go_wp2
      go_ret
      have hkk : k = 0 := by omega
      subst hkk
      exact ⟨ret_int (by rw [hc.out, ← hrest.out]; rfl), hk.trans hd.keep⟩
end Go.Proofs.YtbjidpooociamaaDoor
