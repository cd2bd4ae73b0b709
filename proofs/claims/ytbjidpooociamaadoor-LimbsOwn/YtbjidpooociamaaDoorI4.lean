import Derived.Test.YtbjidpooociamaaDoorI3
import Derived.Test.YtbjidpooociamaaDoorH4
set_option linter.unusedVariables false
set_option linter.unusedSimpArgs false
namespace Go.Proofs.YtbjidpooociamaaDoor
open Go.RowKit Lb
theorem Own.mut {B g : Nat} {w w' : World} {v : Value} {l : List Nat} (h : Own B w v l) (k : Mut g w w') (hg : g < B) : Own B w' v l := by
  refine ⟨h.1, ?_⟩
  rcases h.2 with h2 | ⟨g', cap, cur, hv, hg', hh, r⟩
  · exact .inl h2
  · exact .inr ⟨g', cap, cur, hv, hg', by rw [k.block g' (by omega)]; exact hh, r⟩
set_option maxRecDepth 100000 in
set_option maxHeartbeats 1600000 in
theorem rDivMod_bits (a b : Option Addr) (ca cb : Nat) (la lb : List Nat) (w : World) (hca : la.length ≤ ca) (hcb : lb.length ≤ cb) (hla : la.length ≤ 35184372087900) (hlb : lb.length ≤ 35184372087900) (hra : Rd w a la) (hrb : Rd w b lb) (hma : Lim la) (hmb : Lim lb) (hb2 : 2 ≤ nl lb) :
    Calls Tryd.prog 38 #[.slice a la.length ca, .slice b lb.length cb] w fun e w' => ∃ vq vr lq lr, e = .returned (.tuple #[vq, vr, .int .i64 0]) ∧ Own w.heap.size w' vq lq ∧ Own w.heap.size w' vr lr ∧ Lim lq ∧ Nrm lq ∧ val lq = val la / val lb ∧ Lim lr ∧ Nrm lr ∧ val lr = val la % val lb ∧ Keep w w' := by
  have l1 := nl_le la
  have l2 := nl_le lb
  have e1 : (la.take (nl la)).length = nl la := by simp; omega
  have e2 : (lb.take (nl lb)).length = nl lb := by simp; omega
  have mx := Lim_take hma (nl la)
  have my := Lim_take hmb (nl lb)
  have ny := Nrm_take lb
  have vx := val_take_nl la
  have vy := val_take_nl lb
  have hN1 := rNorm_any a ca la w hca (by omega) hra
  have hN2 := fun wx (hk : Keep w wx) => rNorm_any b cb lb wx hcb (by omega) (hrb.keep hk)
  rw [← vx, ← vy]
  generalize la.take (nl la) = x at *
  generalize lb.take (nl lb) = y at *
  obtain ⟨n, hn⟩ : ∃ n, x.length = n := ⟨_, rfl⟩
  obtain ⟨m, hm⟩ : ∃ m, y.length = m := ⟨_, rfl⟩
  have hnb : n ≤ 35184372087900 := by omega
  have hmb' : m ≤ 35184372087900 := by omega
  have hm2 : 2 ≤ m := by omega
  have hnb2 : n ≤ 70368744177664 := by omega
  have hY0 : 0 < val y := val_pos ny (by intro h; rw [h] at hm; simp at hm; omega)
  obtain ⟨X, hX⟩ : ∃ X, val x = X := ⟨_, rfl⟩
  obtain ⟨Y, hY⟩ : ∃ Y, val y = Y := ⟨_, rfl⟩
  rw [hX, hY]
  rw [hY] at hY0
  have HX : Hid (val x = X) := hX
  have HY : Hid (val y = Y) := hY
  have Hn : Hid (x.length = n) := hn
  have Hm : Hid (y.length = m) := hm
  have hXl : X < 4294967296 ^ n := by rw [← hX, ← hn]; exact val_lt mx
  have hzero : X / 2 ^ (32 * n) = 0 := by
    rw [Nat.pow_mul]; exact Nat.div_eq_of_lt hXl
  clear hma hmb hra hrb hca hcb hla hlb e1 e2 vx vy l1 l2 hb2 hX hY
  go_enter Tryd.func38, Tryd.ntmps38
  go_wp2_with fail
  refine hN1.mono ?_
  rintro e w1 ⟨v1, rfl, o1, k1⟩
  obtain ⟨a1, c1, rfl, hc1, r1⟩ := o1.shape
  go_wp2_with fail
  refine (hN2 _ k1).mono ?_
  rintro e w2 ⟨v2, rfl, o2, k2⟩
  obtain ⟨a2, c2, rfl, hc2, r2⟩ := o2.shape
  have r1 := r1.keep k2
  have k02 := k1.trans k2
  clear hN1 hN2 o1 o2
  rw [hm] at hc2
  rw [hn] at hc1
  try rw [hn]
  try rw [hm]
  clear hn hm
  have hd1 : ((m : Int) == 0) = false := by simp; omega
  have hd2 : ((m : Int) == 1) = false := by simp; omega
  go_wp2_with (at_make; refine wpList_make32 _ rfl _ _ rfl _ _ _ _ n rfl rfl rfl rfl hnb2 ?_; intro w3 hrow hk3 hsz3)
  have k03 := k02.trans hk3
  go_loopw [12, 13] (fun rv iv wr => ∃ (k : Nat) (lr rk : List Nat), k ≤ 32 * n ∧ iv = .int .i64 ((k : Int) - 1) ∧ Own w2.heap.size wr rv lr ∧ Lim lr ∧ Nrm lr ∧ Hid (val lr = X / 2 ^ k % Y) ∧ Row wr w2.heap.size rk ∧ Hid (rk.length = n) ∧ Lim rk ∧ Hid (val rk = X / 2 ^ k / Y * 2 ^ k) ∧ Keep w2 wr) (fun _ iv _ => (intOf iv + 1).toNat)
  case atStart =>
    refine ⟨32 * n, [], List.replicate n 0, by omega, by simp, World.ownsRow_nil _ _ _ _, by intro z hz; simp at hz, by simp [Nrm], ?_, hrow, by show _ = _; simp, by intro z hz; simp at hz; omega, ?_, hk3⟩
    · show _ = _; rw [hzero]; simp [val]
    · show _ = _; rw [hzero, val_rep]; simp
  case round =>
    obtain ⟨k, lr, rk, hk, rfl, hor, mr, nr, hvr, hrk, hql, hmq, hvq, hkp⟩ := hrel
    have hor' := hor
    obtain ⟨ar, cr, rfl, hcr, rr⟩ := hor.shape
    by_cases hk0 : k = 0
    · subst hk0
      have hg : decide ((0 : Int) ≤ ((0 : Nat) : Int) - 1) = false := by simp
      simp only [Nat.pow_zero, Nat.div_one, Nat.mul_one] at hvr hvq
      have hN := rNorm_any (some ⟨w2.heap.size, 0, none⟩) n rk wr (by have := hql.out; omega) (by have := hql.out; omega) hrk.rd0
      rw [hql.out] at hN
      have mt := Lim_take hmq (nl rk)
      have nt := Nrm_take rk
      have vt : Hid (val (rk.take (nl rk)) = X / Y) := by show _ = _; rw [val_take_nl]; exact hvq.out
      generalize rk.take (nl rk) = tq at hN mt nt vt
      go_wp2_with fail
      refine hN.mono ?_
      rintro e w4 ⟨v4, rfl, o4, k4⟩
      obtain ⟨a4, c4, rfl, hc4, r4⟩ := o4.shape
      clear hN
      go_wp2_with fail
      go_ret3
      have kk := (k02.trans hkp)
      exact ⟨_, _, _, _, rfl, o4.mono kk.le, (hor'.keep k4).mono k02.le, mt, nt, vt.out, mr, nr, hvr.out, kk.trans k4⟩
    · obtain ⟨j, rfl⟩ : ∃ j, k = j + 1 := ⟨k - 1, by omega⟩
      have hji : ((j + 1 : Nat) : Int) - 1 = (j : Int) := by omega
      rw [hji]
      have hj32 : j / 32 < n := by omega
      have hB := rBit_any a1 c1 x (j : Int) wr (by have := Hn.out; omega) (r1.keep hkp) mx (by omega) (by omega)
      rw [bitV_val x j mx (by rw [Hn.out]; exact hj32), HX.out, Hn.out] at hB
      obtain ⟨bt, hbt⟩ : ∃ bt, decide (X / 2 ^ j % 2 = 1) = bt := ⟨_, rfl⟩
      rw [hbt] at hB
      have hbn : bt.toNat = X / 2 ^ j % 2 := by
        rw [← hbt]
        have := Nat.mod_lt (X / 2 ^ j) (show 0 < 2 by omega)
        by_cases h : X / 2 ^ j % 2 = 1
        · simp [h]
        · have h0 : X / 2 ^ j % 2 = 0 := by omega
          simp [h0]
      clear hbt
      have hvlt : val lr < Y := by rw [hvr.out]; exact Nat.mod_lt _ hY0
      have hlr : lr.length ≤ m := by have := val_len my nr (by rw [HY.out]; omega); have := Hm.out; omega
      have hDb := double_any ar cr lr bt wr (by omega) rr mr
      go_wp2_with fail
      refine hB.mono ?_
      rintro e w4 ⟨rfl, rfl⟩
      clear hB
      go_wp2_with fail
      refine hDb.mono ?_
      rintro e w5 ⟨v5, l5, rfl, o5, m5, n5, e5, k5⟩
      clear hDb
      have o5' := o5
      obtain ⟨a5, c5, rfl, hc5, r5⟩ := o5.shape
      have hst := bit_step X Y j hY0 (val l5) (by rw [e5, hvr.out, hbn])
      have hl5 : l5.length ≤ m + 1 := len_le_pow n5 (m + 1) (by
        have h1 := val_lt my
        rw [HY.out, Hm.out] at h1
        have : bt.toNat ≤ 1 := Bool.toNat_le bt
        rw [Nat.pow_succ]; omega)
      have hkp5 := hkp.trans k5
      have hrk5 := hrk.keep k5
      have hC := rCmp_any a5 a2 c5 c2 l5 y w5 hc5 (by have := Hm.out; omega) (by omega) (by have := Hm.out; omega) r5 (r2.keep hkp5)
      rw [cmpL_eq _ _ (Lim_take m5 _) (Lim_take my _) (Nrm_take l5) (Nrm_take y), val_take_nl, val_take_nl, HY.out, Hm.out] at hC
      have HST : Hid ((Y ≤ val l5 → X / 2 ^ j % Y = val l5 - Y ∧ X / 2 ^ j / Y = 2 * (X / 2 ^ (j + 1) / Y) + 1) ∧ (val l5 < Y → X / 2 ^ j % Y = val l5 ∧ X / 2 ^ j / Y = 2 * (X / 2 ^ (j + 1) / Y))) := hst
      clear hst e5 hvr hbn
      by_cases hge : Y ≤ val l5
      · have hcn : 0 ≤ cmpN (val l5) Y := by unfold cmpN; rw [if_neg (by omega)]; split <;> omega
        generalize cmpN (val l5) Y = z at hcn hC
        have hgz : decide ((0 : Int) ≤ z) = true := by simp; omega
        obtain ⟨hmod, hdiv⟩ := HST.out.1 hge
        obtain ⟨t, ht⟩ := limb_low rk hmq _ j hvq.out
        obtain ⟨i, hi⟩ : ∃ i, j / 32 = i := ⟨_, rfl⟩
        obtain ⟨p, hp⟩ : ∃ p, j % 32 = p := ⟨_, rfl⟩
        have hii : (j : Int) / 32 = (i : Int) := by omega
        have hpi : (j : Int) % 32 = (p : Int) := by omega
        have hp32 : p < 32 := by omega
        have hsb := set_bit rk _ j hvq.out (by rw [hql.out]; exact hj32)
        rw [hi, hp] at hsb
        rw [hi, hp] at ht
        have hlim := Lim_getD hmq i
        obtain ⟨L, hL⟩ : ∃ L, rk.getD i 0 = L := ⟨_, rfl⟩
        rw [hL] at ht hsb hlim
        have hpw : 2 ^ p ≤ 2147483648 := Nat.le_trans (Nat.pow_le_pow_right (by omega) (show p ≤ 31 by omega)) (by decide)
        have hpc : ((2 : Int) ^ p) = ((2 ^ p : Nat) : Int) := by simp
        have hw1 : (2 : Int) ^ p % 4294967296 = ((2 ^ p : Nat) : Int) := by
          rw [hpc]
          generalize 2 ^ p = T at hpw
          omega
        have hLp : L + 2 ^ p < 4294967296 := by
          rw [ht] at hlim ⊢
          have h1 : (4294967296 : Nat) = 2 ^ (p + 1) * 2 ^ (31 - p) := by rw [← Nat.pow_add, show p + 1 + (31 - p) = 32 by omega]
          have h2 : t < 2 ^ (31 - p) := by
            rw [h1, Nat.mul_comm] at hlim
            exact Nat.lt_of_mul_lt_mul_left hlim
          have h3 := Nat.mul_le_mul_right (2 ^ (p + 1)) (show t + 1 ≤ 2 ^ (31 - p) from h2)
          rw [Nat.mul_comm (2 ^ (31 - p)), ← h1, Nat.add_mul, Nat.pow_succ] at h3
          have h4 : 0 < 2 ^ p := Nat.pos_of_ne_zero (by simp)
          rw [Nat.pow_succ]
          omega
        have hor2 : bits BinOp.or IntKind.u32 (L : Int) (2 ^ p % 4294967296) = ((L + 2 ^ p : Nat) : Int) := by
          rw [hw1, u32_or_nat L (2 ^ p) hlim (by omega), ht, or_bit]
        have hcu := hrk5.cell i (by rw [hql.out]; omega)
        have hfz := hrk5.frozen i
        rw [hL] at hcu
        have HSB : Hid (val (rk.set i (L + 2 ^ p)) = X / 2 ^ j / Y * 2 ^ j) := by show _ = _; rw [hsb, hdiv]
        have HMOD : Hid (X / 2 ^ j % Y = val l5 - Y) := hmod
        have hcu6 : ∀ wx, Keep w5 wx → wx.cell? ⟨w2.heap.size, i, none⟩ = some (.int .u32 (L : Nat)) := fun wx hk => hk.cell hcu
        have hfz6 : ∀ wx, Keep w5 wx → wx.frozen? ⟨w2.heap.size, i, none⟩ = false := fun wx hk => (hrk5.keep hk).frozen i
        clear hmod hdiv hsb ht hL HST hvq hcu hfz hw1 hpc
        go_wp2_with fail
        refine hC.mono ?_
        rintro e w6 ⟨rfl, k6⟩
        clear hC
        have k56 := hkp5.trans k6
        have hS := rSub_any a5 a2 c5 c2 l5 y w6 hc5 (by have := Hm.out; omega) (by omega) (by have := Hm.out; omega) (r5.keep k6) (r2.keep k56) m5 my
        rw [HY.out, Hm.out] at hS
        go_wp2_with fail
        refine hS.mono ?_
        rintro e w7 ⟨hor7, k7⟩
        obtain ⟨v7, l7, rfl, o7, m7, n7, e7⟩ : ∃ v l, e = .returned (.tuple #[v, .int .i64 0]) ∧ Own w6.heap.size w7 v l ∧ Lim l ∧ Nrm l ∧ val l = val l5 - Y := by rcases hor7 with ⟨h, -⟩ | ⟨-, h⟩; omega; exact h
        clear hS hor7
        have o7' := o7
        obtain ⟨a7, c7, rfl, hc7, r7⟩ := o7.shape
        have k67 := k6.trans k7
        have cu7 := hcu6 w7 k67
        have fz7 := hfz6 w7 k67
        have HE7 : Hid (val l7 = X / 2 ^ j % Y) := by show _ = _; rw [e7, HMOD.out]
        clear e7 hcu6 hfz6
        have hrk7 := hrk5.keep k67
        have hgl : w2.heap.size < w6.heap.size := Nat.lt_of_lt_of_le (Row.lt hrk5) k6.le
        go_wp2_with fail
        go_roundw
        case rel =>
          refine ⟨j, l7, rk.set i (L + 2 ^ p), by omega, by go_num, (o7'.mut ((Mut.refl w2.heap.size w7).setCell i _) hgl).mono k56.le, m7, n7, HE7, ?_, by show _ = _; rw [List.length_set]; exact hql.out, Lim_set hmq _ _ hLp, HSB, (k56.trans k7).setCell (by show _ ≤ w2.heap.size; omega) _⟩
          have h1 := hrk7.set i (L + 2 ^ p)
          first | (rw [hor2]; exact h1) | simpa using h1
        case measure => simp [intOf]
      · have hcn : cmpN (val l5) Y = -1 := by unfold cmpN; rw [if_pos (by omega)]
        rw [hcn] at hC
        obtain ⟨hmod, hdiv⟩ := HST.out.2 (by omega)
        have Hm1 : Hid (val l5 = X / 2 ^ j % Y) := hmod.symm
        have Hm2 : Hid (val rk = X / 2 ^ j / Y * 2 ^ j) := by
          show _ = _
          rw [hdiv, hvq.out, Nat.pow_succ, ← Nat.mul_assoc, Nat.mul_right_comm, Nat.mul_comm _ 2]
        clear hmod hdiv hcn HST hvq
        go_wp2_with fail
        refine hC.mono ?_
        rintro e w6 ⟨rfl, k6⟩
        clear hC
        go_wp2_with fail
        go_roundw
        case rel => exact ⟨j, l5, rk, by omega, by go_num, (o5'.keep k6).mono hkp.le, m5, n5, Hm1, hrk5.keep k6, hql, hmq, Hm2, hkp5.trans k6⟩
        case measure => simp [intOf]
end Go.Proofs.YtbjidpooociamaaDoor
