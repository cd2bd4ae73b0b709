import Derived.Test.YtbjidpooociamaaDoorI5
namespace Go.Proofs.YtbjidpooociamaaDoor
open Go.RowKit Lb
set_option maxRecDepth 100000 in
set_option maxHeartbeats 800000 in
theorem law_parts (a b : Option Addr) (ca cb : Nat) (la lb : List Nat) (w : World) (hca : la.length ≤ ca) (hcb : lb.length ≤ cb) (hla : la.length ≤ 35184372087808) (hlb : lb.length ≤ 35184372087808) (hra : Rd w a la) (hrb : Rd w b lb) (hma : Lim la) (hmb : Lim lb) :
    Calls Tryd.prog 6 #[.slice a la.length ca, .slice b lb.length cb] w fun e w' => e = .returned (.bool true) ∧ Keep w w' := by
  have hG := fun wx (hk : Keep w wx) => Gcd_any a b ca cb la lb wx hca hcb (by omega) (by omega) (hra.keep hk) (hrb.keep hk) hma hmb
  have hG2 := fun wx (hk : Keep w wx) => rGcd_any a b ca cb la lb wx hca hcb (by omega) (by omega) (hra.keep hk) (hrb.keep hk) hma hmb
  have hgb : Nat.gcd (val la) (val lb) < 4294967296 ^ (la.length + lb.length + 1) := by
    have h1 := val_lt hma
    have h2 := val_lt hmb
    have h3 : 4294967296 ^ la.length ≤ 4294967296 ^ (la.length + lb.length) := Nat.pow_le_pow_right (by omega) (by omega)
    have h4 : 4294967296 ^ lb.length ≤ 4294967296 ^ (la.length + lb.length) := Nat.pow_le_pow_right (by omega) (by omega)
    have h5 : Nat.gcd (val la) (val lb) ≤ val la + val lb := by
      by_cases h0 : val la = 0
      · rw [h0]; simp
      · exact Nat.le_trans (Nat.gcd_le_left _ (by omega)) (by omega)
    rw [Nat.pow_succ]
    omega
  generalize Nat.gcd (val la) (val lb) = G at *
  by_cases hb : nl lb = 0
  · have hD := DivMod_nought a b ca cb la lb w hca hcb (by omega) (by omega) hra hrb hb
    have hE := fun wx (hk : Keep w wx) => rDivMod_nought a b ca cb la lb wx hca hcb (by omega) (by omega) (hra.keep hk) (hrb.keep hk) hb
    go_enter Tryd.func6, Tryd.ntmps6
    go_wp2_with fail
    refine hD.mono ?_
    rintro e w1 ⟨rfl, k1⟩
    go_wp2_with fail
    refine (hE _ k1).mono ?_
    rintro e w2 ⟨rfl, k2⟩
    have k02 := k1.trans k2
    go_wp2_with fail
    refine (lives_any w2).mono ?_
    rintro e w3 ⟨rfl, k3⟩
    have k03 := k02.trans k3
    have s4 := fun wx => Same_any none none 0 0 [] wx (by simp) (Rd.nil _ _) (Rd.nil _ _)
    go_wp2_with fail
    refine (s4 w3).mono ?_
    rintro e w4 ⟨rfl, d4⟩
    go_wp2_with fail
    refine (s4 w4).mono ?_
    rintro e w5 ⟨rfl, d5⟩
    have k05 := (k03.trans d4.keep).trans d5.keep
    clear s4 hD hE
    go_wp2_with fail
    refine (hG _ k05).mono ?_
    rintro e w6 ⟨v6, rfl, n6, k6⟩
    obtain ⟨a6, c6, l6, rfl, hc6, r6, m6, p6, e6, -⟩ := n6.shape
    have k06 := k05.trans k6
    go_wp2_with fail
    refine (hG2 _ k06).mono ?_
    rintro e w7 ⟨v7, l7, rfl, o7, m7, p7, e7, k7⟩
    obtain ⟨a7, c7, rfl, hc7, r7⟩ := o7.shape
    obtain rfl : l7 = l6 := val_inj m7 m6 p7 p6 (by omega)
    have hl7 := len_le_pow p7 _ (by rw [e7]; exact hgb)
    have s8 := Same_any a6 a7 c6 c7 l7 w7 (by omega) (r6.keep k7) r7
    clear e6 e7 hG hG2
    go_wp2_with fail
    refine s8.mono ?_
    rintro e w8 ⟨rfl, d8⟩
    go_wp2_with fail
    go_ret
    exact ⟨rfl, (k06.trans k7).trans d8.keep⟩
  · have hv0 : 0 < val lb := Nat.lt_of_lt_of_le (Nat.pos_of_ne_zero (by simp)) (val_ge_len lb hb)
    have hD := DivMod_any a b ca cb la lb w hca hcb (by omega) (by omega) hra hrb hma hmb hv0
    have hE := fun wx (hk : Keep w wx) => rDivMod_any a b ca cb la lb wx hca hcb (by omega) (by omega) (hra.keep hk) (hrb.keep hk) hma hmb hb
    have hq1 : val la / val lb < 4294967296 ^ la.length := Nat.lt_of_le_of_lt (Nat.div_le_self _ _) (val_lt hma)
    have hq2 : val la % val lb < 4294967296 ^ la.length := Nat.lt_of_le_of_lt (Nat.mod_le _ _) (val_lt hma)
    generalize val la / val lb = Q at *
    generalize val la % val lb = R at *
    go_enter Tryd.func6, Tryd.ntmps6
    go_wp2_with fail
    refine hD.mono ?_
    rintro e w1 ⟨vq, vr, rfl, nq, nr, k1⟩
    obtain ⟨aq, cq, lq, rfl, hcq, rq, mq, pq, eq, -⟩ := nq.shape
    obtain ⟨ar, cr, lr, rfl, hcr, rr, mr, pr, er, -⟩ := nr.shape
    go_wp2_with fail
    refine (hE _ k1).mono ?_
    rintro e w2 ⟨vq', vr', lq', lr', rfl, oq, or2, mq', pq', eq', mr', pr', er', k2⟩
    obtain ⟨aq', cq', rfl, hcq', rq'⟩ := oq.shape
    obtain ⟨ar', cr', rfl, hcr', rr'⟩ := or2.shape
    obtain rfl : lq' = lq := val_inj mq' mq pq' pq (by omega)
    obtain rfl : lr' = lr := val_inj mr' mr pr' pr (by omega)
    have k02 := k1.trans k2
    have hl1 := len_le_pow pq _ (by rw [eq]; exact hq1)
    have hl2 := len_le_pow pr _ (by rw [er]; exact hq2)
    clear hD hE nq nr eq er eq' er' hq1 hq2
    go_wp2_with fail
    refine (lives_any w2).mono ?_
    rintro e w3 ⟨rfl, k3⟩
    have k03 := k02.trans k3
    have s4 := Same_any aq aq' cq cq' lq' w3 (by omega) ((rq.keep k2).keep k3) (rq'.keep k3)
    go_wp2_with fail
    refine s4.mono ?_
    rintro e w4 ⟨rfl, d4⟩
    have s5 := Same_any ar ar' cr cr' lr' w4 (by omega) (((rr.keep k2).keep k3).keep d4.keep) ((rr'.keep k3).keep d4.keep)
    clear s4
    go_wp2_with fail
    refine s5.mono ?_
    rintro e w5 ⟨rfl, d5⟩
    have k05 := (k03.trans d4.keep).trans d5.keep
    clear s5
    go_wp2_with fail
    refine (hG _ k05).mono ?_
    rintro e w6 ⟨v6, rfl, n6, k6⟩
    obtain ⟨a6, c6, l6, rfl, hc6, r6, m6, p6, e6, -⟩ := n6.shape
    have k06 := k05.trans k6
    go_wp2_with fail
    refine (hG2 _ k06).mono ?_
    rintro e w7 ⟨v7, l7, rfl, o7, m7, p7, e7, k7⟩
    obtain ⟨a7, c7, rfl, hc7, r7⟩ := o7.shape
    obtain rfl : l7 = l6 := val_inj m7 m6 p7 p6 (by omega)
    have hl7 := len_le_pow p7 _ (by rw [e7]; exact hgb)
    have s8 := Same_any a6 a7 c6 c7 l7 w7 (by omega) (r6.keep k7) r7
    clear e6 e7 hG hG2
    go_wp2_with fail
    refine s8.mono ?_
    rintro e w8 ⟨rfl, d8⟩
    go_wp2_with fail
    go_ret
    exact ⟨rfl, (k06.trans k7).trans d8.keep⟩
end Go.Proofs.YtbjidpooociamaaDoor
