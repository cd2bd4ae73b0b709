import Derived.Test.YtbjidpooociamaaDoorI2
set_option linter.unusedVariables false
set_option linter.unusedSimpArgs false
namespace Go.Proofs.YtbjidpooociamaaDoor
open Go.RowKit Lb
set_option maxRecDepth 100000 in
set_option maxHeartbeats 800000 in
theorem rDivMod_one (a b : Option Addr) (ca cb : Nat) (la lb : List Nat) (w : World) (hca : la.length ≤ ca) (hcb : lb.length ≤ cb) (hla : la.length ≤ 35184372088000) (hlb : lb.length ≤ 35184372088000) (hra : Rd w a la) (hrb : Rd w b lb) (hma : Lim la) (hmb : Lim lb) (hb1 : nl lb = 1) :
    Calls Tryd.prog 38 #[.slice a la.length ca, .slice b lb.length cb] w fun e w' => ∃ vq vr lq lr, e = .returned (.tuple #[vq, vr, .int .i64 0]) ∧ Own w.heap.size w' vq lq ∧ Own w.heap.size w' vr lr ∧ Lim lq ∧ Nrm lq ∧ val lq = val la / val lb ∧ Lim lr ∧ Nrm lr ∧ val lr = val la % val lb ∧ Keep w w' := by
  have l1 := nl_le la
  have e1 : (la.take (nl la)).length = nl la := by simp; omega
  have mx := Lim_take hma (nl la)
  have vx := val_take_nl la
  have vy := val_take_nl lb
  have ny := Nrm_take lb
  have my := Lim_take hmb (nl lb)
  have e2 : (lb.take (nl lb)).length = 1 := by simp; have := nl_le lb; omega
  obtain ⟨y, hy⟩ : ∃ y, lb.take (nl lb) = [y] := List.length_eq_one_iff.1 e2
  have hN2 := fun wx (hk : Keep w wx) => rNorm_any b cb lb wx hcb hlb (hrb.keep hk)
  rw [hy] at hN2 vy ny my
  have hyl : y < 4294967296 := my y (by simp)
  have hy0 : 0 < y := by simp [Nrm] at ny; omega
  have hvy : val [y] = y := by simp [val]
  rw [hvy] at vy
  have hN1 := rNorm_any a ca la w hca hla hra
  rw [← vx, ← vy]
  generalize la.take (nl la) = x at *
  obtain ⟨n, hn⟩ : ∃ n, x.length = n := ⟨_, rfl⟩
  have hnb : n ≤ 35184372088000 := by omega
  have hnb2 : n ≤ 70368744177664 := by omega
  clear hma hmb hra hrb hca hcb hla hlb e1 e2 hy vx vy ny my hvy l1 hb1
  go_enter Tryd.func38, Tryd.ntmps38
  go_wp2_with fail
  refine hN1.mono ?_
  rintro e w1 ⟨v1, rfl, o1, k1⟩
  obtain ⟨a1, c1, rfl, hc1, r1⟩ := o1.shape
  go_wp2_with fail
  refine (hN2 _ k1).mono ?_
  rintro e w2 ⟨v2, rfl, o2, k2⟩
  obtain ⟨a2, c2, rfl, hc2, r2⟩ := o2.shape
  have r1 := r1.keep k2
  have k02 := k1.trans k2
  obtain ⟨by2, oy2, rfl, cy2⟩ := r2 0 (by simp)
  clear hN1 hN2 o1 o2
  try rw [hn]
  have Hn : Hid (x.length = n) := hn
  clear hn
  simp only [List.length_cons, List.length_nil, Nat.zero_add] at *
  go_wp2_with (at_make; refine wpList_make32 _ rfl _ _ rfl _ _ _ _ n rfl rfl rfl rfl hnb2 ?_; intro w3 hrow hk3 hsz3)
  have k03 := k02.trans hk3
  go_loopw [10, 11] (fun rv iv wr => ∃ (k r : Nat) (qs : List Nat), k ≤ n ∧ rv = .int .u64 (r : Nat) ∧ iv = .int .i64 ((k : Int) - 1) ∧ r < y ∧ Row wr w2.heap.size (List.replicate k 0 ++ qs) ∧ Hid (qs.length + k = n) ∧ Lim qs ∧ Hid (val qs = val (x.drop k) / y) ∧ Hid (r = val (x.drop k) % y) ∧ Keep w2 wr) (fun _ iv _ => (intOf iv + 1).toNat)
  case atStart => exact ⟨n, 0, [], by omega, rfl, rfl, hy0, by simpa using hrow, by show _ = _; simp, by intro z hz; simp at hz, by show _ = _; rw [List.drop_eq_nil_of_le (by rw [Hn.out]; omega)]; simp [val], by show _ = _; rw [List.drop_eq_nil_of_le (by rw [Hn.out]; omega)]; simp [val], hk3⟩
  case round =>
    obtain ⟨k, r, qs, hk, rfl, rfl, hry, hrk, hql, hmq, hvq, hvr, hkp⟩ := hrel
    by_cases hk0 : k = 0
    · subst hk0
      have hg : decide ((0 : Int) ≤ ((0 : Nat) : Int) - 1) = false := by simp
      simp only [List.replicate_zero, List.nil_append, List.drop_zero] at hrk hvq hvr
      have hN := rNorm_any (some ⟨w2.heap.size, 0, none⟩) n qs wr (by have := hql.out; omega) (by have := hql.out; omega) hrk.rd0
      have hql' : qs.length = n := by have := hql.out; omega
      rw [hql'] at hN
      have Hq : Hid (qs.length = n) := hql'
      clear hql'
      have mt := Lim_take hmq (nl qs)
      have nt := Nrm_take qs
      have vt : Hid (val (qs.take (nl qs)) = val x / y) := by show _ = _; rw [val_take_nl]; exact hvq.out
      generalize qs.take (nl qs) = tq at hN mt nt vt
      have hF := fun wx => rFrom_any r wx (by omega)
      go_wp2_with fail
      refine hN.mono ?_
      rintro e w4 ⟨v4, rfl, o4, k4⟩
      obtain ⟨a4, c4, rfl, hc4, r4⟩ := o4.shape
      clear hN
      go_wp2_with fail
      refine (hF w4).mono ?_
      rintro e w5 ⟨v5, l5, rfl, o5, m5, n5, e5, k5⟩
      have o5' := o5
      obtain ⟨a5, c5, rfl, hc5, r5⟩ := o5.shape
      go_wp2_with fail
      go_ret3
      have kk := (k02.trans hkp)
      refine ⟨_, _, _, _, rfl, (o4.keep k5).mono kk.le, o5'.mono (kk.trans k4).le, mt, nt, vt.out, m5, n5, ?_, (kk.trans k4).trans k5⟩
      rw [e5, hvr.out]
    · obtain ⟨j, rfl⟩ : ∃ j, k = j + 1 := ⟨k - 1, by omega⟩
      have hji : ((j + 1 : Nat) : Int) - 1 = (j : Int) := by omega
      rw [hji]
      obtain ⟨b1, o1, rfl, hx1⟩ := (r1.keep hkp) j (by rw [Hn.out]; omega)
      obtain ⟨z, hz⟩ : ∃ z, x.getD j 0 = z := ⟨_, rfl⟩
      have hzl : z < 4294967296 := hz ▸ Lim_getD mx _
      rw [hz] at hx1
      have cyr : wr.cell? ⟨by2, oy2, none⟩ = some (.int .u32 (y : Nat)) := by simpa using hkp.cell cy2
      have hby : by2 < w2.heap.size := World.block_lt_of_cell? w2 _ cy2
      have cyr2 : ∀ v, (wr.setCell ⟨w2.heap.size, j, none⟩ v).cell? ⟨by2, oy2, none⟩ = some (.int .u32 (y : Nat)) := fun v => ((Mut.refl w2.heap.size wr).setCell j v).cell (by show by2 ≠ _; omega) cyr
      have hor := or64' r z (by omega) hzl
      have hcu := hrk.cell j (by simp; omega)
      have hfz := hrk.frozen j
      obtain ⟨u, hu⟩ : ∃ u, (List.replicate (j + 1) 0 ++ qs).getD j 0 = u := ⟨_, rfl⟩
      rw [hu] at hcu
      clear hu
      obtain ⟨D, hD⟩ : ∃ D, r * 4294967296 + z = D := ⟨_, rfl⟩
      rw [hD] at hor
      have hdl : D / y < 4294967296 := by
        rw [Nat.div_lt_iff_lt_mul hy0, ← hD]
        have := Nat.mul_le_mul_right 4294967296 (show r + 1 ≤ y by omega)
        rw [Nat.mul_comm y] at this
        omega
      have hDl : D < 18446744073709551616 := by omega
      have hst := one_step (val (x.drop (j + 1))) y z r (val qs) (D / y) (D % y) hy0 (by rw [hvq.out, hvr.out]; exact (Nat.div_add_mod _ _).symm) (by rw [hD]; exact (Nat.div_add_mod _ _).symm) (Nat.mod_lt _ hy0)
      have hdr : val (x.drop j) = z + 4294967296 * val (x.drop (j + 1)) := by
        rw [drop_cons_getD x j (by rw [Hn.out]; omega), hz]; rfl
      rw [← hdr] at hst
      have HS : Hid (val (x.drop j) / y = D / y + 4294967296 * val qs ∧ val (x.drop j) % y = D % y) := hst
      have hyne : (y : Int) ≠ 0 := by omega
      clear hst hdr hz hD hvq hvr
      go_wp2_with fail
      go_roundw
      case rel =>
        refine ⟨j, D % y, (D / y) :: qs, by omega, by simp, by go_num, Nat.mod_lt _ hy0, ?_, ?_, ?_, ?_, HS.out.2.symm, hkp.setCell (by show _ ≤ w2.heap.size; omega) _⟩
        · have h1 := hrk.set j (D / y)
          rw [rep_set] at h1
          have e : IntKind.u64.wrap ((D : Int) / (y : Int)) % 4294967296 = ((D / y : Nat) : Int) := by
            have e0 : (D : Int) / (y : Int) = ((D / y : Nat) : Int) := by simp
            rw [e0, IntKind.wrap_u64]
            generalize D / y = E at hdl
            omega
          rw [e]; exact h1
        · have := hql.out; show _ = _; simp; omega
        · intro t ht
          simp at ht
          rcases ht with rfl | ht
          · exact hdl
          · exact hmq t ht
        · show _ = _; rw [HS.out.1]; rfl
      case measure => simp [intOf]
end Go.Proofs.YtbjidpooociamaaDoor
